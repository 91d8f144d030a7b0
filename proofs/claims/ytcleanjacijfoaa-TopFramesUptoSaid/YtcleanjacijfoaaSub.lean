/- Helpers: literal lists, parts of a list in memory, one byte more onto a slice of the call's own. No statement is proved here. -/
import Derived.Test.YtcleanjacijfoaaAppOff
import Derived.OwnWalk
import Derived.BigQuiet
namespace Go.Proofs.Ytcleanjacijfoaa.App
open Go.ChangeShapes Go.WideShapes Go.ChangeAt Go.RowKit Go.Proofs.Ytcleanjacijfoaa.Kit
set_option linter.unusedVariables false
set_option maxRecDepth 20000

theorem drop_get {l : List Int} {k : Nat} (h : k < l.length) : l.drop k = l[k]?.getD 0 :: l.drop (k + 1) := by
  rw [List.drop_eq_getElem_cons h, List.getElem?_eq_getElem h]; rfl
theorem below_one {W w w' : World} {base : Nat} {v : Value} {xs : List Int} (hb : Below base W w) (hB : base ≤ w.heap.size) (o : Obj) (hown : OwnI w base v xs) (hg : (w.alloc o).grownBy w' v.ownBlock) : Below base W w' :=
  below_app (hb.alloc hB o) (hown.alloc o) hg (Nat.le_trans hB (by simp))
theorem eq_of_get {a b : List Int} (hl : a.length = b.length) (h : ∀ j : Nat, j < a.length → a[j]?.getD 0 = b[j]?.getD 0) : a = b := by
  refine List.ext_getElem hl fun j h1 h2 => ?_
  have := h j h1
  rwa [List.getElem?_eq_getElem h1, List.getElem?_eq_getElem h2] at this
theorem lit_ints (w : World) (l : List Int) (h : ∀ x ∈ l, (Lit.int .i64 x).wf = true) (hm : l.length ≤ 700) : Ints (w.alloc (.cells (l.map (Value.int .i64)).toArray 3)) (some ⟨w.heap.size, 0, none⟩) l.length l :=
  ⟨Nat.le_refl _, by simp [maxLen]; omega, fun j => by
    by_cases hj : j < l.length
    · rw [List.getElem?_eq_getElem hj]; exact h _ (List.getElem_mem hj)
    · rw [List.getElem?_eq_none (by omega)]; simp [Lit.wf, IntKind.min, IntKind.max, IntKind.signed, IntKind.bits], fun _ => ⟨w.heap.size, 0, rfl, by simp, fun j hj => by
    have : (w.alloc (.cells (l.map (Value.int .i64)).toArray 3)).heap[w.heap.size]? = some (.cells (l.map (Value.int .i64)).toArray 3) := alloc_new w _
    unfold World.cell?
    rw [this]
    simp [hj]⟩⟩
theorem lit_own (w : World) (l : List Int) (h : ∀ x ∈ l, (Lit.int .i64 x).wf = true) (hm : l.length ≤ 700) : OwnI (w.alloc (.cells (l.map (Value.int .i64)).toArray 3)) w.heap.size (.slice (some ⟨w.heap.size, 0, none⟩) l.length l.length) l :=
  ⟨⟨by simp, .inr ⟨w.heap.size, l.length, (l.map (Value.int .i64)).toArray, rfl, Nat.le_refl _, alloc_new w _, Nat.le_refl _, by unfold maxLen; omega, by simp, by rw [Nat.mul_one, List.take_of_length_le (by simp)]⟩⟩, h⟩
theorem own_mono {w : World} {base base' : Nat} {v : Value} {l : List Int} (h : OwnI w base v l) (hb : base' ≤ base) : OwnI w base' v l := by
  obtain ⟨⟨h1, h2⟩, h3⟩ := h
  refine ⟨⟨h1, ?_⟩, h3⟩
  rcases h2 with h2 | ⟨g, cap, cur, rfl, hg, rest⟩
  · exact .inl h2
  · exact .inr ⟨g, cap, cur, rfl, by omega, rest⟩
theorem ints_sub {w : World} {b off cap : Nat} {l : List Int} (h : Ints w (some ⟨b, off, none⟩) cap l) (k m c : Nat) (hk : k + m ≤ l.length) (hc : m ≤ c) (hm : c ≤ maxLen) : Ints w (some ⟨b, off + k, none⟩) c ((l.drop k).take m) := by
  have hlen : ((l.drop k).take m).length = m := by rw [List.length_take, List.length_drop]; omega
  refine ⟨by rw [hlen]; exact hc, hm, fun j => ?_, fun hn => ?_⟩
  · by_cases hj : j < m
    · rw [List.getElem?_take, if_pos hj, List.getElem?_drop]; exact h.2.2.1 (k + j)
    · rw [List.getElem?_eq_none (by omega)]; exact wf_zero
  · obtain ⟨b', off', e, hb, hc⟩ := h.2.2.2 (by omega)
    injection e with e
    injection e with e1 e2
    subst e1; subst e2
    refine ⟨b, off + k, rfl, hb, fun j hj => ?_⟩
    have := hc (k + j) (by omega)
    rw [← Nat.add_assoc] at this
    rw [this, List.getElem?_take, if_pos (by omega), List.getElem?_drop]
theorem ints_cut {w : World} {b off cap : Nat} {l : List Int} (h : Ints w (some ⟨b, off, none⟩) cap l) (i : Nat) (hi : i ≤ l.length) (c : Nat) (hc : i ≤ c) (hm : c ≤ maxLen) : Ints w (some ⟨b, off, none⟩) c (l.take i) := by
  have := ints_sub h 0 i c (by omega) hc hm
  simpa using this
theorem ints_none (w : World) (p : Option Addr) (c : Nat) (l : List Int) (hm : c ≤ maxLen) (hl : l = []) : Ints w p c l := by
  subst hl
  exact ⟨Nat.zero_le _, hm, fun j => by simpa using wf_zero, fun h => absurd h (by simp)⟩
theorem take_rest {l : List Int} {i : Nat} (h : i ≤ l.length) : (l.drop i).take (l.length - i) = l.drop i := by
  rw [List.take_of_length_le]; rw [List.length_drop]; omega
theorem ints_tail {w : World} {b off cap : Nat} {l : List Int} (h : Ints w (some ⟨b, off, none⟩) cap l) (k c : Nat) (hk : k ≤ l.length) (hc : l.length - k ≤ c) (hm : c ≤ maxLen) : Ints w (some ⟨b, off + k, none⟩) c (l.drop k) := by
  have := ints_sub h k (l.length - k) c (by omega) hc hm
  rwa [take_rest hk] at this
end Go.Proofs.Ytcleanjacijfoaa.App
