/- The rows that came, whatever came since. No statement is proved here. -/
import Derived.Test.YtlojehakifagbaaDoorDrrMath
import Derived.Test.YtlojehakifagbaaDoorRows0
namespace Go.Proofs.YtlojehakifagbaaDoor.Drr
open Go.ChangeShapes Go.WideShapes Go.ChangeAt Go.RowKit Go.Proofs.YtlojehakifagbaaDoor.Kit Go.Proofs.YtlojehakifagbaaDoor.App
set_option linter.unusedVariables false
set_option maxRecDepth 20000

theorem rows_at {w : World} {p : Option Addr} {cap : Nat} {ls : List (List Int)} (h : RowsI w p cap ls) (hn : 0 < ls.length) : ∃ b off, p = some ⟨b, off, none⟩ ∧ ∀ W : World, Below w.heap.size w W → ∀ k, k < ls.length → ∃ q c, W.cell? ⟨b, off + k, none⟩ = some (.slice q (row ls k).length c) ∧ Ints W q c (row ls k) := by
  obtain ⟨b, off, e, _, _⟩ := h.2.2 hn
  refine ⟨b, off, e, fun W hW k hk => ?_⟩
  obtain ⟨b', off', e', _, hc⟩ := (h.below hW).2.2 hn
  rw [e] at e'
  injection e' with e'
  injection e' with e1 e2
  subst e1; subst e2
  exact hc k hk
/-- The same pointers in every world to come. -/
theorem rows_both {w : World} {p : Option Addr} {cap : Nat} {ls : List (List Int)} (h : RowsI w p cap ls) (hn : 0 < ls.length) : ∃ b off, p = some ⟨b, off, none⟩ ∧ ∀ k, k < ls.length → ∃ q c, (row ls k).length ≤ 9223372036854775807 ∧ ∀ W : World, Below w.heap.size w W → W.cell? ⟨b, off + k, none⟩ = some (.slice q (row ls k).length c) ∧ Ints W q c (row ls k) := by
  obtain ⟨b, off, e, hb, hc⟩ := h.2.2 hn
  refine ⟨b, off, e, fun k hk => ?_⟩
  obtain ⟨q, c, hq, hi⟩ := hc k hk
  exact ⟨q, c, hi.len_le, fun W hW => ⟨(hW.cell (p := ⟨b, off + k, none⟩) hb).trans hq, hi.below hW⟩⟩
/-- The cells of a list of numbers in every world to come. -/
theorem ints_both {q : Option Addr} {c : Nat} {l : List Int} {w : World} (h : Ints w q c l) (hn : 0 < l.length) : ∃ b off, q = some ⟨b, off, none⟩ ∧ ∀ W : World, Below w.heap.size w W → ∀ k, k < l.length → W.cell? ⟨b, off + k, none⟩ = some (.int .i64 (l[k]?.getD 0)) := by
  obtain ⟨b, off, e, hb, hc⟩ := h.2.2.2 hn
  exact ⟨b, off, e, fun W hW k hk => (hW.cell (p := ⟨b, off + k, none⟩) hb).trans (hc k hk)⟩
end Go.Proofs.YtlojehakifagbaaDoor.Drr
