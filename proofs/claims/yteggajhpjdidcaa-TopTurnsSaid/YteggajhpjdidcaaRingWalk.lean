/- A token ring step by step: who has the token, what is left, what is sent; and the gaps by where each was last. Mathematics alone. No statement is proved here. -/
import Derived.Test.YteggajhpjdidcaaRingCode
namespace Go.Proofs.Yteggajhpjdidcaa.RingMath
set_option linter.unusedVariables false
variable {f : Nat → Nat} {h m : Nat}
/-- What is left of station k ahead of step s: the token is at s % m in turn s / m. -/
def lf (f : Nat → Nat) (h m s k : Nat) : Nat := f k - min (f k) ((if k < s % m then s / m * h + h else s / m * h))
/-- What is sent ahead of step s. -/
def sofar (f : Nat → Nat) (h m s : Nat) : List Nat := pre f h m (s / m) (s % m)
theorem sofar_zero : sofar f h m 0 = [] := by unfold sofar; rw [Nat.zero_div, Nat.zero_mod]; rfl
theorem lf_zero (k : Nat) : lf f h m 0 k = f k := by unfold lf; rw [Nat.zero_div, Nat.zero_mod, if_neg (Nat.not_lt_zero _)]; omega
theorem lf_le (s k : Nat) : lf f h m s k ≤ f k := by unfold lf; omega
theorem next_cases (hm : 0 < m) (s : Nat) : (s % m + 1 < m ∧ (s + 1) / m = s / m ∧ (s + 1) % m = s % m + 1) ∨ (s % m + 1 = m ∧ (s + 1) / m = s / m + 1 ∧ (s + 1) % m = 0) := by
  have h1 := Nat.div_add_mod s m
  have h2 := Nat.mod_lt s hm
  rcases Nat.lt_or_ge (s % m + 1) m with h3 | h3
  · refine .inl ⟨h3, ?_, ?_⟩
    · rw [show s + 1 = (s % m + 1) + s / m * m by rw [Nat.mul_comm]; omega, Nat.add_mul_div_right _ _ hm, Nat.div_eq_of_lt h3, Nat.zero_add]
    · rw [show s + 1 = (s % m + 1) + s / m * m by rw [Nat.mul_comm]; omega, Nat.add_mul_mod_self_right, Nat.mod_eq_of_lt h3]
  · have h4 : s % m + 1 = m := by omega
    have h5 : s + 1 = (s / m + 1) * m := by rw [Nat.succ_mul, Nat.mul_comm]; omega
    exact .inr ⟨h4, by rw [h5, Nat.mul_div_cancel _ hm], by rw [h5, Nat.mul_mod_left]⟩
theorem next_tok (hm : 0 < m) (s : Nat) : (s + 1) % m = (s % m + 1) % m := by
  rcases next_cases hm s with ⟨h1, _, h3⟩ | ⟨h1, _, h3⟩
  · rw [h3, Nat.mod_eq_of_lt h1]
  · rw [h3, h1, Nat.mod_self]
theorem sends_is (s : Nat) : min h (lf f h m s (s % m)) = min (f (s % m)) (s / m * h + h) - min (f (s % m)) (s / m * h) := by
  unfold lf
  rw [if_neg (Nat.lt_irrefl _)]
  generalize s / m * h = q
  omega
theorem sofar_next (hm : 0 < m) (s : Nat) : sofar f h m (s + 1) = sofar f h m s ++ List.replicate (min h (lf f h m s (s % m))) (s % m) := by
  have h1 : pre f h m (s / m) (s % m + 1) = sofar f h m s ++ List.replicate (min h (lf f h m s (s % m))) (s % m) := by
    rw [pre_next, sends_is]; rfl
  rw [← h1]
  unfold sofar
  rcases next_cases hm s with ⟨_, h2, h3⟩ | ⟨h4, h2, h3⟩
  · rw [h2, h3]
  · rw [h2, h3, h4, pre_turn, pre_zero]
theorem lf_next (hm : 0 < m) (s k : Nat) (hk : k < m) : lf f h m (s + 1) k = if k = s % m then lf f h m s k - min h (lf f h m s k) else lf f h m s k := by
  unfold lf
  have h2 := Nat.mod_lt s hm
  rcases next_cases hm s with ⟨h1, e1, e2⟩ | ⟨h1, e1, e2⟩
  · rw [e1, e2]
    generalize s / m * h = q
    by_cases e : k = s % m
    · rw [if_pos e, if_pos (by omega), if_neg (by omega)]; omega
    · rw [if_neg e]
      by_cases h3 : k < s % m
      · rw [if_pos (by omega), if_pos h3]
      · rw [if_neg (by omega), if_neg h3]
  · rw [e1, e2, Nat.succ_mul, if_neg (Nat.not_lt_zero _)]
    generalize s / m * h = q
    by_cases e : k = s % m
    · rw [if_pos e, if_neg (by omega)]; omega
    · rw [if_neg e, if_pos (by omega)]
theorem sofar_is {T : Nat} (hm : 0 < m) {s : Nat} (hs : s < T * m) : ∃ R, order f h m T = sofar f h m (s + 1) ++ R := by
  have h1 : s / m < T := (Nat.div_lt_iff_lt_mul hm).2 hs
  obtain ⟨R, e⟩ := pre_is (f := f) (h := h) T (s / m) (s % m + 1) h1 (Nat.mod_lt s hm)
  refine ⟨R, ?_⟩
  rw [e, sofar_next hm, pre_next, sends_is]; rfl
/-- Nothing is left: all is sent. -/
theorem sofar_done (hm : 0 < m) {s T : Nat} (hs : ∀ k, k < m → lf f h m s k = 0) (hT : ∀ k, k < m → f k ≤ T * h) : sofar f h m s = order f h m T := by
  have h2 := Nat.mod_lt s hm
  have hlo : ∀ k, k < s % m → f k ≤ s / m * h + h := fun k hk => by
    have := hs k (by omega)
    unfold lf at this
    rw [if_pos hk] at this
    omega
  have hup : ∀ k, s % m ≤ k → k < m → f k ≤ s / m * h := fun k hk hkm => by
    have := hs k hkm
    unfold lf at this
    rw [if_neg (by omega)] at this
    omega
  have e1 : ∀ j, s % m + j ≤ m → ahead f h (s / m) (s % m + j) = ahead f h (s / m) (s % m) := fun j => by
    induction j with
    | zero => exact fun _ => rfl
    | succ j ih =>
      intro hj
      rw [← Nat.add_assoc, ahead, ih (by omega), part_none (hup _ (by omega) (by omega)), List.append_nil]
  have e2 : sofar f h m s = order f h m (s / m + 1) := by
    unfold sofar pre
    have := e1 (m - s % m) (by omega)
    rw [show s % m + (m - s % m) = m by omega] at this
    rw [order, this]
  have h3 : ∀ k, k < m → f k ≤ (s / m + 1) * h := fun k hk => by
    rw [Nat.succ_mul]
    rcases Nat.lt_or_ge k (s % m) with h4 | h4
    · exact hlo k h4
    · have := hup k h4 hk; omega
  rw [e2]
  rcases Nat.le_total T (s / m + 1) with h4 | h4
  · exact order_end hT h4
  · exact (order_end h3 h4).symm
/-- Something is left: the last step is not over. -/
theorem more_steps (hm : 0 < m) {s k T : Nat} (hk : k < m) (hl : 0 < lf f h m s k) (hT : f k ≤ T * h) : s < T * m := by
  have h1 : s / m * h < T * h := by
    unfold lf at hl
    split at hl <;> omega
  have h2 : s / m < T := Nat.lt_of_mul_lt_mul_right h1
  exact (Nat.div_lt_iff_lt_mul hm).1 h2
/-- Up to place n: the gaps that end ahead of it. -/
structure GapUp (l : List Nat) (n g : Nat) : Prop where
  top : ∀ i j, j < n → Nx l i j → j - i - 1 ≤ g
  got : g = 0 ∨ ∃ i j, j < n ∧ Nx l i j ∧ j - i - 1 = g
theorem gapUp_zero (l : List Nat) : GapUp l 0 0 := ⟨fun i j hj => absurd hj (Nat.not_lt_zero _), .inl rfl⟩
theorem gapUp_end {l : List Nat} {g : Nat} (hg : GapUp l l.length g) : gap l = g :=
  gap_eq ⟨fun i j hn => hg.top i j (by
    obtain ⟨x, _, h1⟩ := hn.2.1
    rcases Nat.lt_or_ge j l.length with h2 | h2
    · exact h2
    · rw [List.getElem?_eq_none h2] at h1; cases h1) hn, by
    rcases hg.got with e | ⟨i, j, _, h1, h2⟩
    · exact .inl e
    · exact .inr ⟨i, j, h1, h2⟩⟩
theorem nx_back {l : List Nat} {i k j : Nat} (a : Nx l i j) (b : Nx l k j) : i = k := by
  obtain ⟨a1, ⟨x, a2, a3⟩, a4⟩ := a
  obtain ⟨b1, ⟨y, b2, b3⟩, b4⟩ := b
  rcases Nat.lt_trichotomy i k with h1 | h1 | h1
  · exact absurd (by rw [b2, a2, ← a3, ← b3]) (a4 k h1 b1)
  · exact h1
  · exact absurd (by rw [b2, a2, ← a3, ← b3]) (b4 i h1 a1)
theorem gapUp_some {l : List Nat} {n i g : Nat} (hg : GapUp l n g) (hn : Nx l i n) : GapUp l (n + 1) (if g < n - i - 1 then n - i - 1 else g) := by
  refine ⟨fun k j hj hk => ?_, ?_⟩
  · by_cases e : j = n
    · subst e
      obtain rfl := nx_back hn hk
      split <;> omega
    · have := hg.top k j (by omega) hk
      split <;> omega
  · split
    · exact .inr ⟨i, n, by omega, hn, rfl⟩
    · rcases hg.got with e | ⟨k, j, h1, h2, h3⟩
      · exact .inl e
      · exact .inr ⟨k, j, by omega, h2, h3⟩
theorem gapUp_none {l : List Nat} {n g : Nat} (hg : GapUp l n g) (hn : ∀ k, k < n → l[k]? ≠ l[n]?) : GapUp l (n + 1) g := by
  refine ⟨fun i j hj hk => ?_, ?_⟩
  · by_cases e : j = n
    · subst e
      obtain ⟨h1, ⟨x, h2, h3⟩, _⟩ := hk
      exact absurd (by rw [h2, h3]) (hn i h1)
    · exact hg.top i j (by omega) hk
  · rcases hg.got with e | ⟨i, k, h1, h2, h3⟩
    · exact .inl e
    · exact .inr ⟨i, k, by omega, h2, h3⟩
/-- Where each station sent last, ahead of place n. -/
structure Lst (l : List Nat) (n : Nat) (q : Nat → Option Int) : Prop where
  none : ∀ x, q x = none → ∀ k, k < n → l[k]? ≠ some x
  some : ∀ x v, q x = some v → ∃ i : Nat, v = (i : Int) ∧ i < n ∧ l[i]? = some x ∧ ∀ k, i < k → k < n → l[k]? ≠ some x
theorem lst_zero (l : List Nat) : Lst l 0 (fun _ => Option.none) := ⟨fun _ _ k hk => absurd hk (Nat.not_lt_zero _), fun _ _ e => by cases e⟩
theorem lst_next {l : List Nat} {n x : Nat} {q : Nat → Option Int} (H : Lst l n q) (hx : l[n]? = some x) : Lst l (n + 1) (fun j => if j = x then Option.some (n : Int) else q j) := by
  refine ⟨fun y hy k hk => ?_, fun y v hy => ?_⟩
  · by_cases e : y = x
    · simp only [if_pos e] at hy; cases hy
    · simp only [if_neg e] at hy
      by_cases e2 : k = n
      · subst e2
        rw [hx]
        intro e3; injection e3 with e3; exact e e3.symm
      · exact H.none y hy k (by omega)
  · by_cases e : y = x
    · simp only [if_pos e] at hy
      injection hy with hy
      exact ⟨n, hy.symm, by omega, by rw [e]; exact hx, fun k h1 h2 => by omega⟩
    · simp only [if_neg e] at hy
      obtain ⟨i, h1, h2, h3, h4⟩ := H.some y v hy
      refine ⟨i, h1, by omega, h3, fun k h5 h6 => ?_⟩
      by_cases e2 : k = n
      · subst e2
        rw [hx]
        intro e3; injection e3 with e3; exact e e3.symm
      · exact h4 k h5 (by omega)
theorem lst_nx {l : List Nat} {n x : Nat} {q : Nat → Option Int} (H : Lst l n q) (hx : l[n]? = some x) {v : Int} (hv : q x = some v) : ∃ i : Nat, v = (i : Int) ∧ i < n ∧ Nx l i n := by
  obtain ⟨i, h1, h2, h3, h4⟩ := H.some x v hv
  exact ⟨i, h1, h2, h2, ⟨x, h3, hx⟩, fun k h5 h6 => by rw [h3]; exact h4 k h5 h6⟩
end Go.Proofs.Yteggajhpjdidcaa.RingMath
