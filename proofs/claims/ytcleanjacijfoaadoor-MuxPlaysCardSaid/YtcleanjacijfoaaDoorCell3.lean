/- A struct of three cells as the one result of a function. No statement is proved here. -/
import Derived.Test.YtcleanjacijfoaaDoorBase
namespace Go.Proofs.YtcleanjacijfoaaDoor.App
open Go.ChangeShapes Go.WideShapes Go.ChangeAt Go.RowKit Go.Proofs.YtcleanjacijfoaaDoor.Kit
set_option linter.unusedVariables false
set_option maxRecDepth 20000

/-- A struct of three cells as the one result: it lies in a cell. -/
theorem results_three {fn : Func} {p : Tmp} {t : TypeId} (h : fn.results = #[.cell p t]) (ha : ∀ w, (isAgg t).run Tryd.prog w = .ok true w) (hs : ∀ w, (Go.sizeOf t).run Tryd.prog w = .ok 3 w) (tmps : Array Value) (w : World) (a : Addr)
    (hp : tmps.getD p undef = .pointer (some a)) (h0 : a.spot = none) (ho : a.off = 0) (u v z : Value) (c0 : w.cell? ⟨a.block, 0, none⟩ = some u) (c1 : w.cell? ⟨a.block, 1, none⟩ = some v) (c2 : w.cell? ⟨a.block, 2, none⟩ = some z) :
    (results fn tmps).run Tryd.prog w = .ok (.agg #[u, v, z]) w := by
  obtain ⟨bl, off, sp⟩ := a
  subst h0 ho
  have e1 : (loadVar t ⟨bl, 0, none⟩).run Tryd.prog w = .ok (.agg #[u, v, z]) w := by
    unfold loadVar
    rw [Sem.run_bind, ha w]
    simp only [Result.andThen_ok, if_true]
    rw [Sem.run_bind, hs w]
    simp only [Result.andThen_ok]
    have e2 : (loadCells ⟨bl, 0, none⟩ 3).run Tryd.prog w = .ok #[u, v, z] w := by
      go_simp
      try simp [c0, c1, c2]
    rw [Sem.run_bind, e2]
    rfl
  have hp' : tmps[p]?.getD undef = .pointer (some ⟨bl, 0, none⟩) := by simpa using hp
  simp [results, h, hp', asAddr, e1]
end Go.Proofs.YtcleanjacijfoaaDoor.App
