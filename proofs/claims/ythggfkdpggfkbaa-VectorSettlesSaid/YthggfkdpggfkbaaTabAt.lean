/- A table of numbers that is read, whatever came since. No statement is proved here. -/
import Derived.Test.YthggfkdpggfkbaaVecMath
import Derived.Test.YthggfkdpggfkbaaRows0
namespace Go.Proofs.Ythggfkdpggfkbaa.Vector
open Go.ChangeShapes Go.WideShapes Go.ChangeAt Go.RowKit Go.Proofs.Ythggfkdpggfkbaa.Kit Go.Proofs.Ythggfkdpggfkbaa.App
set_option linter.unusedVariables false
set_option maxRecDepth 20000

/-- Where a table of n rows of n numbers lies. -/
structure At (w : World) (p : Option Addr) (n : Nat) (f : Tb) where
  b : Nat
  off : Nat
  c : Nat → Nat
  b2 : Nat → Nat
  o2 : Nat → Nat
  ptr : p = some ⟨b, off, none⟩
  hd : ∀ W : World, Below w.heap.size w W → ∀ i, i < n → W.cell? ⟨b, off + i, none⟩ = some (.slice (some ⟨b2 i, o2 i, none⟩) n (c i))
  cell : ∀ W : World, Below w.heap.size w W → ∀ i j, i < n → j < n → W.cell? ⟨b2 i, o2 i + j, none⟩ = some (.int .i64 (f i j))
theorem tab_at {w : World} {p : Option Addr} {cap n : Nat} {f : Tb} (h : RowsI w p cap (rows n f)) (hn : 0 < n) : Nonempty (At w p n f) := by
  obtain ⟨b, off, rfl, hb, hc⟩ := h.2.2 (by rw [rows_len]; exact hn)
  rw [rows_len] at hc
  have hex : ∀ i : Nat, ∃ t : Nat × Nat × Nat, i < n → w.cell? ⟨b, off + i, none⟩ = some (.slice (some ⟨t.1, t.2.1, none⟩) n t.2.2) ∧ t.1 < w.heap.size ∧ ∀ j, j < n → w.cell? ⟨t.1, t.2.1 + j, none⟩ = some (.int .i64 (f i j)) := fun i => by
    by_cases hi : i < n
    · obtain ⟨q, c, h1, h2⟩ := hc i hi
      rw [rows_get n f hi, rw1_len] at h1
      rw [rows_get n f hi] at h2
      obtain ⟨b2, o2, rfl, hb2, h3⟩ := h2.2.2.2 (by rw [rw1_len]; exact hn)
      rw [rw1_len] at h3
      exact ⟨(b2, o2, c), fun _ => ⟨h1, hb2, fun j hj => by rw [h3 j hj, rw1_get n (f i) hj]⟩⟩
    · exact ⟨(0, 0, 0), fun h => absurd h hi⟩
  refine ⟨⟨b, off, fun i => (Classical.choose (hex i)).2.2, fun i => (Classical.choose (hex i)).1, fun i => (Classical.choose (hex i)).2.1, rfl, fun W hW i hi => ?_, fun W hW i j hi hj => ?_⟩⟩
  · exact (hW.cell (p := ⟨b, off + i, none⟩) hb).trans (Classical.choose_spec (hex i) hi).1
  · exact (hW.cell (p := ⟨(Classical.choose (hex i)).1, (Classical.choose (hex i)).2.1 + j, none⟩) (Classical.choose_spec (hex i) hi).2.1).trans ((Classical.choose_spec (hex i) hi).2.2 j hj)
end Go.Proofs.Ythggfkdpggfkbaa.Vector
