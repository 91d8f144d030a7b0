/- A struct of two cells and a second result. No statement is proved here. -/
import Derived.Test.YtcleanjacijfoaaDoorBase
namespace Go.Proofs.YtcleanjacijfoaaDoor.App
open Go.ChangeShapes Go.WideShapes Go.ChangeAt Go.RowKit Go.Proofs.YtcleanjacijfoaaDoor.Kit
set_option linter.unusedVariables false
set_option maxRecDepth 20000

/-- A struct of two cells, which lies in a cell, and a second result beside it. -/
theorem results_twot {fn : Func} {p q : Tmp} {t : TypeId} (h : fn.results = #[.cell p t, .tmp q]) (ha : ∀ w, (isAgg t).run Tryd.prog w = .ok true w) (hs : ∀ w, (Go.sizeOf t).run Tryd.prog w = .ok 2 w) (tmps : Array Value) (w : World) (bl : Nat)
    (hp : tmps.getD p undef = .pointer (some ⟨bl, 0, none⟩)) (u v : Value) (c0 : w.cell? ⟨bl, 0, none⟩ = some u) (c1 : w.cell? ⟨bl, 1, none⟩ = some v) :
    (results fn tmps).run Tryd.prog w = .ok (.tuple #[.agg #[u, v], tmps.getD q undef]) w := by
  have e1 : (loadVar t ⟨bl, 0, none⟩).run Tryd.prog w = .ok (.agg #[u, v]) w := by
    unfold loadVar
    rw [Sem.run_bind, ha w]
    simp only [Result.andThen_ok, if_true]
    rw [Sem.run_bind, hs w]
    simp only [Result.andThen_ok]
    have e2 : (loadCells ⟨bl, 0, none⟩ 2).run Tryd.prog w = .ok #[u, v] w := by
      go_simp
      try simp [c0, c1]
    rw [Sem.run_bind, e2]
    rfl
  have hp' : tmps[p]?.getD undef = .pointer (some ⟨bl, 0, none⟩) := by simpa using hp
  simp [results, h, hp', asAddr, e1, Result.andThen]
end Go.Proofs.YtcleanjacijfoaaDoor.App
