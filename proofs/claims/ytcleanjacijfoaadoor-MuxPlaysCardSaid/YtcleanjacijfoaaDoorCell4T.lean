/- A struct of four cells and a second result. No statement is proved here. -/
import Derived.Test.YtcleanjacijfoaaDoorBase
namespace Go.Proofs.YtcleanjacijfoaaDoor.App
open Go.ChangeShapes Go.WideShapes Go.ChangeAt Go.RowKit Go.Proofs.YtcleanjacijfoaaDoor.Kit
set_option linter.unusedVariables false
set_option maxRecDepth 20000

/-- A struct of four cells, which lies in a cell, and a second result beside it. -/
theorem results_four {fn : Func} {p q : Tmp} {t : TypeId} (h : fn.results = #[.cell p t, .tmp q]) (ha : ∀ w, (isAgg t).run Tryd.prog w = .ok true w) (hs : ∀ w, (Go.sizeOf t).run Tryd.prog w = .ok 4 w) (tmps : Array Value) (w : World) (bl : Nat)
    (hp : tmps.getD p undef = .pointer (some ⟨bl, 0, none⟩)) (u v z y : Value) (c0 : w.cell? ⟨bl, 0, none⟩ = some u) (c1 : w.cell? ⟨bl, 1, none⟩ = some v) (c2 : w.cell? ⟨bl, 2, none⟩ = some z) (c3 : w.cell? ⟨bl, 3, none⟩ = some y) :
    (results fn tmps).run Tryd.prog w = .ok (.tuple #[.agg #[u, v, z, y], tmps.getD q undef]) w := by
  have e1 : (loadVar t ⟨bl, 0, none⟩).run Tryd.prog w = .ok (.agg #[u, v, z, y]) w := by
    unfold loadVar
    rw [Sem.run_bind, ha w]
    simp only [Result.andThen_ok, if_true]
    rw [Sem.run_bind, hs w]
    simp only [Result.andThen_ok]
    have e2 : (loadCells ⟨bl, 0, none⟩ 4).run Tryd.prog w = .ok #[u, v, z, y] w := by
      go_simp
      try simp [c0, c1, c2, c3]
    rw [Sem.run_bind, e2]
    rfl
  have hp' : tmps[p]?.getD undef = .pointer (some ⟨bl, 0, none⟩) := by simpa using hp
  simp [results, h, hp', asAddr, e1, Result.andThen]
end Go.Proofs.YtcleanjacijfoaaDoor.App
