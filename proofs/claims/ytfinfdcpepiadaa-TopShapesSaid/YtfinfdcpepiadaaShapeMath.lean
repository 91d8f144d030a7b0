/- What a bucket lets through fits a curve: the mathematics. No statement is proved here. -/
import Derived.Test.YtfinfdcpepiadaaCurveMath
import Derived.Test.YtfinfdcpepiadaaBucketMath
namespace Go.Proofs.Ytfinfdcpepiadaa.Curve
open Go.Proofs.Ytfinfdcpepiadaa.Bucket
set_option linter.unusedVariables false

/-- The curve of a bucket: its depth, and what falls in. -/
def lims (r d : Int) (t : Nat) : List Int := (List.range t).map fun k : Nat => d + r * (k : Int)
theorem lims_len {r d : Int} {t : Nat} : (lims r d t).length = t := by simp [lims]
theorem lims_succ {r d : Int} {t : Nat} : lims r d (t + 1) = lims r d t ++ [d + r * (t : Int)] := by simp [lims, List.range_succ]
theorem lims_am {r d : Int} {t k : Nat} (hk : k < t) : am (lims r d t) k = d + r * (k : Int) := by unfold am lims; simp [hk]
theorem am_end {l : List Int} {x : Int} {k : Nat} (h : k < l.length) : am (l ++ [x]) k = am l k := by unfold am; rw [List.getElem?_append_left h]
theorem am_last {l : List Int} {x : Int} : am (l ++ [x]) l.length = x := by unfold am; simp
theorem mul_le {r a b : Int} (hr : 0 ≤ r) (h : a ≤ b) : r * a ≤ r * b := Int.mul_le_mul_of_nonneg_left h hr
/-- What came up to a tick, when the bucket holds h at time T. -/
structure Shape (r d h : Int) (T t : Nat) (S : Int) (A : List Int) : Prop where
  len : A.length = t
  tim : T ≤ t
  nul : 0 ≤ S
  fit : S + h ≤ d + r * (T : Int)
  now : ∀ s, s < t → S - am A s + h ≤ d + r * ((T - s : Nat) : Int)
  aft : ∀ s, s < t → T < s → am A s = S
  num : ∀ s, s < t → 0 ≤ am A s ∧ am A s ≤ S
  up : ∀ k, k + 1 < t → am A k ≤ am A (k + 1)
  all : ∀ k, k < t → ∀ s, s ≤ k → am A k - am A s ≤ d + r * ((k - s : Nat) : Int)
variable {r d h h' S S' : Int} {T T' t : Nat} {A : List Int}
theorem shape_new (hd : 0 ≤ d) : Shape r d d 0 0 0 [] := ⟨rfl, Nat.le_refl _, Int.le_refl _, by simp, by intro s hs; omega, by intro s hs; omega, by intro s hs; omega, by intro s hs; omega, by intro s hs; omega⟩
theorem tick {a b c : Nat} (h1 : a ≤ b) (h2 : b ≤ c) : r * ((c - a : Nat) : Int) = r * ((c - b : Nat) : Int) + r * ((b - a : Nat) : Int) := by
  rw [← Int.mul_add]
  congr 1
  omega
/-- The bucket after a tick, and the sum. -/
structure Next (r d h : Int) (T t : Nat) (S : Int) (A : List Int) (h' : Int) (T' : Nat) (S' : Int) : Prop where
  tim : T' ≤ t
  emp : 0 ≤ h'
  les : S ≤ S'
  fit : S' + h' ≤ d + r * (T' : Int)
  now : ∀ s, s < t → S' - am A s + h' ≤ d + r * ((T' - s : Nat) : Int)
  aft : ∀ s, s < t → T' < s → am A s = S'
  top : h' ≤ d
theorem Shape.next (hr : 0 ≤ r) (H : Shape r d h T t S A) (N : Next r d h T t S A h' T' S') : Shape r d h' T' (t + 1) S' (A ++ [S']) := by
  have hl := H.len
  have e1 : ∀ s, s < t → am (A ++ [S']) s = am A s := fun s hs => am_end (by omega)
  have e2 : am (A ++ [S']) t = S' := by rw [← hl]; exact am_last
  have hc : ∀ s, s < t + 1 → s < t ∨ s = t := fun s hs => by omega
  have hm : ∀ n : Nat, 0 ≤ r * (n : Int) := fun n => Int.mul_nonneg hr (Int.natCast_nonneg n)
  refine ⟨by simp [hl], by have := N.tim; omega, Int.le_trans H.nul N.les, N.fit, fun s hs => ?_, fun s hs hT => ?_, fun s hs => ?_, fun k hk => ?_, fun k hk s hs => ?_⟩
  · rcases hc s hs with h1 | h1
    · rw [e1 s h1]; exact N.now s h1
    · subst h1
      rw [e2]
      have := N.top
      have := hm (T' - s)
      omega
  · rcases hc s hs with h1 | h1
    · rw [e1 s h1]; exact N.aft s h1 hT
    · subst h1; exact e2
  · rcases hc s hs with h1 | h1
    · rw [e1 s h1]
      have := H.num s h1
      have := N.les
      omega
    · subst h1
      rw [e2]
      have := H.nul
      have := N.les
      omega
  · rw [e1 k (by omega)]
    rcases hc (k + 1) hk with h1 | h1
    · rw [e1 _ h1]; exact H.up k h1
    · rw [h1, e2]
      have := (H.num k (by omega)).2
      have := N.les
      omega
  · rcases hc k hk with h1 | h1
    · rw [e1 k h1, e1 s (by omega)]; exact H.all k h1 s hs
    · subst h1
      rw [e2]
      rcases hc s (by omega) with h2 | h2
      · rw [e1 s h2]
        have a1 := N.now s h2
        have a2 := mul_le (a := ((T' - s : Nat) : Int)) (b := ((k - s : Nat) : Int)) hr (by have := N.tim; omega)
        have := N.emp
        omega
      · subst h2
        rw [e2]
        have := N.top
        have := N.emp
        have := hm (s - s)
        omega
theorem next_wait (hh : 0 ≤ h) (hd : h ≤ d) (H : Shape r d h T t S A) : Next r d h T t S A h T S :=
  ⟨H.tim, hh, Int.le_refl _, H.fit, H.now, H.aft, hd⟩
theorem next_take {n f : Int} (hr : 0 ≤ r) (hh : 0 ≤ h) (hd : h ≤ d) (H : Shape r d h T t S A) (hf : fill d h (r * ((t : Int) - (T : Int))) = f) (hn : 0 ≤ n ∧ n ≤ f) : Next r d h T t S A (f - n) t (S + n) := by
  have hT := H.tim
  have e0 : (t : Int) - (T : Int) = ((t - T : Nat) : Int) := by omega
  rw [e0] at hf
  have f1 : f ≤ h + r * ((t - T : Nat) : Int) := by rw [← hf]; exact fill_le
  have f2 := fill_in (d := d) (h := h) (x := r * ((t - T : Nat) : Int)) hh hd (Int.mul_nonneg hr (Int.natCast_nonneg _))
  rw [hf] at f2
  refine ⟨Nat.le_refl _, by omega, by omega, ?_, fun s hs => ?_, fun s hs hT => by omega, by omega⟩
  · have e1 := tick (r := r) (a := 0) (b := T) (c := t) (by omega) hT
    have := H.fit
    simp only [Nat.sub_zero] at e1
    omega
  · rcases Nat.lt_or_ge T s with h1 | h1
    · rw [H.aft s hs h1]
      have := Int.mul_nonneg hr (Int.natCast_nonneg (t - s))
      omega
    · have e1 := tick (r := r) (a := s) (b := T) (c := t) h1 hT
      have := H.now s hs
      omega
theorem shape_under (H : Shape r d h T t S A) : under A (lims r d t) = true := by
  rw [under_iff, H.len]
  intro k hk s hs
  rw [lims_am (by omega)]
  exact H.all k hk s hs
theorem shape_good (H : Shape r d h T t S A) (ht : 0 < t) (ht2 : t ≤ 16) (hr : r ≤ 20) (hd : d ≤ 100) (hh : 0 ≤ h) : Curve.Good A := by
  have hl := H.len
  have h1 : r * (T : Int) ≤ 20 * (T : Int) := Int.mul_le_mul_of_nonneg_right hr (Int.natCast_nonneg _)
  have := H.fit
  have := H.tim
  exact good_of (by omega) (by omega) (fun k hk => by
    have := H.num k (by omega)
    omega) (fun k hk => H.up k (by omega))
theorem lims_good (ht : 0 < t) (ht2 : t ≤ 16) (hr0 : 0 ≤ r) (hr : r ≤ 20) (hd0 : 0 ≤ d) (hd : d ≤ 100) : Curve.Good (lims r d t) := by
  refine good_of (by rw [lims_len]; exact ht) (by rw [lims_len]; exact ht2) (fun k hk => ?_) (fun k hk => ?_)
  · rw [lims_len] at hk
    rw [lims_am hk]
    have h1 : r * (k : Int) ≤ 20 * (k : Int) := Int.mul_le_mul_of_nonneg_right hr (Int.natCast_nonneg _)
    have h2 := Int.mul_nonneg hr0 (Int.natCast_nonneg k)
    omega
  · rw [lims_len] at hk
    rw [lims_am (by omega), lims_am hk]
    have := mul_le (r := r) (a := (k : Int)) (b := ((k + 1 : Nat) : Int)) hr0 (by omega)
    omega
end Go.Proofs.Ytfinfdcpepiadaa.Curve
