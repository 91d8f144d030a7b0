/- A token ring: what the laws say of the order. Mathematics alone. No statement is proved here. -/
import Derived.Test.YteggajhpjdidcaaRingMath
namespace Go.Proofs.Yteggajhpjdidcaa.RingMath
set_option linter.unusedVariables false
variable {f : Nat → Nat} {h m : Nat}
/-- All frames are sent. -/
theorem order_len {T : Nat} (hT : ∀ k, k < m → f k ≤ T * h) : (order f h m T).length = sm f m := by
  rw [len_order]
  exact sm_congr m fun k hk => by have := hT k hk; omega
theorem order_count {T k : Nat} (hT : ∀ k, k < m → f k ≤ T * h) (hk : k < m) : (order f h m T).count k = f k := by
  rw [count_order, if_pos hk]
  have := hT k hk; omega
/-- What those ahead of i send in the first turn. -/
theorem ahead_len (f : Nat → Nat) (h i : Nat) : (ahead f h 0 i).length = sm (fun k => min (f k) h) i := by
  rw [len_ahead]
  refine sm_congr i fun k _ => ?_
  show min (f k) (0 * h + h) - min (f k) (0 * h) = min (f k) h
  rw [Nat.zero_mul, Nat.zero_add]; omega
theorem turn_at (hh : 0 < h) {T i : Nat} (hT : ∀ k, k < m → f k ≤ T * h) (hi : i < m) (h0 : 0 < f i) : (order f h m T)[sm (fun k => min (f k) h) i]? = some i ∧ i ∉ (order f h m T).take (sm (fun k => min (f k) h) i) ∧ sm (fun k => min (f k) h) i < (order f h m T).length := by
  have hT0 : 0 < T := by
    rcases Nat.eq_zero_or_pos T with e | e
    · have := hT i hi; rw [e, Nat.zero_mul] at this; omega
    · exact e
  obtain ⟨R, e⟩ := pre_is (f := f) (h := h) T 0 i hT0 (Nat.le_of_lt hi)
  have e1 : pre f h m 0 i = ahead f h 0 i := rfl
  have hp := part_at (f := f) (h := h) (k := 0) hT0 hi (by rw [part_len, Nat.zero_mul, Nat.zero_add]; omega)
  rw [e1, ahead_len, Nat.add_zero] at hp
  refine ⟨hp, ?_, ?_⟩
  · rw [e, e1, List.take_append_of_le_length (by rw [ahead_len]; exact Nat.le_refl _), List.take_of_length_le (by rw [ahead_len]; exact Nat.le_refl _)]
    intro hm
    have := mem_ahead hm; omega
  · rcases Nat.lt_or_ge (sm (fun k => min (f k) h) i) (order f h m T).length with h1 | h1
    · exact h1
    · rw [List.getElem?_eq_none h1] at hp; cases hp
/-- Station by station. -/
def flat (f : Nat → Nat) : Nat → List Nat
  | 0 => []
  | i + 1 => flat f i ++ List.replicate (f i) i
theorem flat_ahead (hs : ∀ k, k < m → f k ≤ h) : ∀ i, i ≤ m → ahead f h 0 i = flat f i
  | 0, _ => rfl
  | i + 1, hi => by
    rw [ahead, flat, flat_ahead hs i (by omega)]
    unfold part
    have := hs i (by omega)
    rw [Nat.zero_mul, Nat.zero_add, show min (f i) h - min (f i) 0 = f i by omega]
theorem order_flat {T : Nat} (hT : ∀ k, k < m → f k ≤ T * h) (hs : ∀ k, k < m → f k ≤ h) : order f h m T = flat f m := by
  have h1 : order f h m 1 = flat f m := by
    rw [order, order, List.nil_append, flat_ahead hs m (Nat.le_refl _)]
  rcases Nat.eq_zero_or_pos T with e | e
  · subst e
    rw [order]
    have h0 : ∀ i, i ≤ m → flat f i = [] := fun i => by
      induction i with
      | zero => exact fun _ => rfl
      | succ i ih =>
        intro hi
        have := hT i (by omega)
        rw [Nat.zero_mul] at this
        rw [flat, ih (by omega), show f i = 0 by omega]; rfl
    rw [h0 m (Nat.le_refl _)]
  · rw [order_end (t := 1) (fun j hj => by rw [Nat.one_mul]; exact hs j hj) e, h1]
theorem flat_len (f : Nat → Nat) : ∀ i, (flat f i).length = sm f i
  | 0 => rfl
  | i + 1 => by rw [flat, List.length_append, flat_len f i, List.length_replicate]; rfl
/-- Up to a place: the most that others send between two of one. -/
structure GapTo (l : List Nat) (n g : Nat) : Prop where
  top : ∀ i j, i < n → Nx l i j → j - i - 1 ≤ g
  got : g = 0 ∨ ∃ i j, i < n ∧ Nx l i j ∧ j - i - 1 = g
theorem gapTo_zero (l : List Nat) : GapTo l 0 0 := ⟨fun i j hi => absurd hi (Nat.not_lt_zero _), .inl rfl⟩
theorem gapTo_end {l : List Nat} {g : Nat} (hg : GapTo l l.length g) : Gap l g :=
  ⟨fun i j hn => hg.top i j (by
    obtain ⟨x, h1, _⟩ := hn.2.1
    rcases Nat.lt_or_ge i l.length with h2 | h2
    · exact h2
    · rw [List.getElem?_eq_none h2] at h1; cases h1) hn, by
    rcases hg.got with e | ⟨i, j, _, h1, h2⟩
    · exact .inl e
    · exact .inr ⟨i, j, h1, h2⟩⟩
theorem nx_uniq {l : List Nat} {i j k : Nat} (a : Nx l i j) (b : Nx l i k) : j = k := by
  obtain ⟨a1, ⟨x, a2, a3⟩, a4⟩ := a
  obtain ⟨b1, ⟨y, b2, b3⟩, b4⟩ := b
  rcases Nat.lt_trichotomy j k with h1 | h1 | h1
  · exact absurd (by rw [a3, a2]) (b4 j a1 h1)
  · exact h1
  · exact absurd (by rw [b3, b2]) (a4 k b1 h1)
/-- The next of the place n is found at j. -/
theorem gapTo_some {l : List Nat} {n j g : Nat} (hg : GapTo l n g) (hn : Nx l n j) : GapTo l (n + 1) (if g < j - n - 1 then j - n - 1 else g) := by
  refine ⟨fun i k hi hk => ?_, ?_⟩
  · by_cases e : i = n
    · subst e
      obtain rfl := nx_uniq hn hk
      split <;> omega
    · have := hg.top i k (by omega) hk
      split <;> omega
  · split
    · exact .inr ⟨n, j, by omega, hn, rfl⟩
    · rcases hg.got with e | ⟨i, k, h1, h2, h3⟩
      · exact .inl e
      · exact .inr ⟨i, k, by omega, h2, h3⟩
/-- There is none. -/
theorem gapTo_none {l : List Nat} {n g : Nat} (hg : GapTo l n g) (hn : ∀ k, n < k → k < l.length → l[k]? ≠ l[n]?) : GapTo l (n + 1) g := by
  refine ⟨fun i k hi hk => ?_, ?_⟩
  · by_cases e : i = n
    · subst e
      obtain ⟨h1, ⟨x, h2, h3⟩, _⟩ := hk
      exfalso
      refine hn k h1 ?_ (by rw [h2, h3])
      rcases Nat.lt_or_ge k l.length with h4 | h4
      · exact h4
      · rw [List.getElem?_eq_none h4] at h3; cases h3
    · exact hg.top i k (by omega) hk
  · rcases hg.got with e | ⟨i, k, h1, h2, h3⟩
    · exact .inl e
    · exact .inr ⟨i, k, by omega, h2, h3⟩
/-- There is one number that is it. -/
theorem gap_ex (l : List Nat) : ∃ g, Gap l g := by
  have key : ∀ n, ∃ g, GapTo l n g := fun n => by
    induction n with
    | zero => exact ⟨0, gapTo_zero l⟩
    | succ n ih =>
      obtain ⟨g, hg⟩ := ih
      by_cases hn : ∃ j, Nx l n j
      · obtain ⟨j, hj⟩ := hn
        exact ⟨_, gapTo_some hg hj⟩
      · refine ⟨g, fun i k hi hk => ?_, ?_⟩
        · by_cases e : i = n
          · subst e; exact absurd ⟨k, hk⟩ hn
          · exact hg.top i k (by omega) hk
        · rcases hg.got with e | ⟨i, k, h1, h2, h3⟩
          · exact .inl e
          · exact .inr ⟨i, k, by omega, h2, h3⟩
  obtain ⟨g, hg⟩ := key l.length
  exact ⟨g, gapTo_end hg⟩
open Classical in
noncomputable def gap (l : List Nat) : Nat := Classical.choose (gap_ex l)
theorem gap_is (l : List Nat) : Gap l (gap l) := Classical.choose_spec (gap_ex l)
theorem gap_eq {l : List Nat} {g : Nat} (hg : Gap l g) : gap l = g := gap_uniq (gap_is l) hg
theorem gap_few (l : List Nat) : gap l ≤ l.length := by
  rcases (gap_is l).got with e | ⟨i, j, ⟨h1, ⟨x, _, h2⟩, _⟩, e⟩
  · omega
  · rcases Nat.lt_or_ge j l.length with h3 | h3
    · omega
    · rw [List.getElem?_eq_none h3] at h2; cases h2
end Go.Proofs.Yteggajhpjdidcaa.RingMath
