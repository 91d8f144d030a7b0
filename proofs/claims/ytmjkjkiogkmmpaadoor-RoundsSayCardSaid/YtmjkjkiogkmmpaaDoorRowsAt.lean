/- The rows that came, whatever came since. No statement is proved here. -/
import Derived.Test.YtmjkjkiogkmmpaaDoorDrrMath
import Derived.Test.YtmjkjkiogkmmpaaDoorRows0
namespace Go.Proofs.YtmjkjkiogkmmpaaDoor.Drr
open Go.ChangeShapes Go.WideShapes Go.ChangeAt Go.RowKit Go.Proofs.YtmjkjkiogkmmpaaDoor.Kit Go.Proofs.YtmjkjkiogkmmpaaDoor.App
set_option linter.unusedVariables false
set_option maxRecDepth 20000

theorem rows_at {w : World} {p : Option Addr} {cap : Nat} {ls : List (List Int)} (h : RowsI w p cap ls) (hn : 0 < ls.length) : ∃ b off, p = some ⟨b, off, none⟩ ∧ ∀ W : World, Below w.heap.size w W → ∀ k, k < ls.length → ∃ q c, W.cell? ⟨b, off + k, none⟩ = some (.slice q (row ls k).length c) ∧ Ints W q c (row ls k) := by
  obtain ⟨b, off, e, _, _⟩ := h.2.2 hn
  refine ⟨b, off, e, fun W hW k hk => ?_⟩
  obtain ⟨b', off', e', _, hc⟩ := (h.below hW).2.2 hn
  rw [e] at e'
  injection e' with e'
  injection e' with e1 e2
  subst e1; subst e2
  exact hc k hk
end Go.Proofs.YtmjkjkiogkmmpaaDoor.Drr
