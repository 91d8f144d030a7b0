/- A bucket's mathematics: how much is in it after some ticks, and what can be taken in any time. No statement is proved here. -/
import Derived.Test.YtfinfdcpepiadaaKit
namespace Go.Proofs.Ytfinfdcpepiadaa.Bucket
set_option linter.unusedVariables false

/-- What a bucket of depth d holds that held h, when x has come in. -/
def fill (d h x : Int) : Int := if h + x < d then h + x else d
theorem fill_in {d h x : Int} (h1 : 0 ≤ h) (h2 : h ≤ d) (hx : 0 ≤ x) : 0 ≤ fill d h x ∧ fill d h x ≤ d := by unfold fill; split <;> omega
theorem fill_le {d h x : Int} : fill d h x ≤ h + x := by unfold fill; split <;> omega
theorem fill_zero {d h : Int} (h2 : h ≤ d) : fill d h 0 = h := by unfold fill; split <;> omega
theorem fill_more {d h x r : Int} (hr : 0 ≤ r) : fill d (fill d h x) r = fill d h (x + r) := by unfold fill; split <;> split <;> split <;> omega
theorem fill_full {d h x : Int} (h1 : 0 ≤ h) (hx : d ≤ x) : fill d h x = d := by unfold fill; split <;> omega
theorem prod_in {r m M : Int} (h1 : 0 ≤ r) (h2 : r ≤ 20) (h3 : 0 ≤ m) (h4 : m ≤ M) : 0 ≤ r * m ∧ r * m ≤ 20 * M :=
  ⟨Int.mul_nonneg h1 h3, Int.mul_le_mul h2 h4 h3 (by omega)⟩
theorem step_prod (r : Int) (m : Int) : r * (m + 1) = r * m + r := by rw [Int.mul_add, Int.mul_one]

/-- What holds of a bucket at all times. -/
def Ok (r d h t : Int) : Prop := 0 ≤ r ∧ r ≤ 20 ∧ 0 ≤ d ∧ d ≤ 100 ∧ 0 ≤ h ∧ h ≤ d ∧ 0 ≤ t ∧ t ≤ 1000
/-- What was taken: the times, how much each time; and what is in the bucket at time t. -/
structure Took (r d h t : Int) (A M : List Int) : Prop where
  len : M.length = A.length
  num : ∀ k, k < A.length → 0 ≤ A[k]?.getD 0 ∧ A[k]?.getD 0 ≤ t ∧ 0 ≤ M[k]?.getD 0 ∧ M[k]?.getD 0 ≤ 100
  now : ∀ i, i < A.length → (M.drop i).sum + h ≤ d + r * (t - A[i]?.getD 0)
  all : ∀ i k, i ≤ k → k < A.length → ((M.drop i).take (k + 1 - i)).sum ≤ d + r * (A[k]?.getD 0 - A[i]?.getD 0)
theorem took_nil (r d h t : Int) : Took r d h t [] [] := ⟨rfl, by simp, by simp, by simp⟩
theorem get_end {l : List Int} {x : Int} {k : Nat} (h : k < l.length) : (l ++ [x])[k]?.getD 0 = l[k]?.getD 0 := by rw [List.getElem?_append_left h]
theorem get_last {l : List Int} {x : Int} : (l ++ [x])[l.length]?.getD 0 = x := by simp
/-- Time passes, and nothing is taken. -/
theorem Took.wait {r d h t t' : Int} {A M : List Int} (H : Took r d h t A M) (ht : t ≤ t') : Took r d (fill d h (r * (t' - t))) t' A M := by
  refine ⟨H.len, fun k hk => ?_, fun i hi => ?_, H.all⟩
  · obtain ⟨a, b, c, e⟩ := H.num k hk
    exact ⟨a, by omega, c, e⟩
  · have h1 := H.now i hi
    have h2 : fill d h (r * (t' - t)) ≤ h + r * (t' - t) := fill_le
    have h3 : r * (t' - A[i]?.getD 0) = r * (t' - t) + r * (t - A[i]?.getD 0) := by rw [← Int.mul_add]; congr 1; omega
    omega
/-- So much is taken as is there. -/
theorem Took.take {r d h t n : Int} {A M : List Int} (H : Took r d h t A M) (hn : 0 ≤ n ∧ n ≤ h) (hd : h ≤ d) (hd2 : d ≤ 100) (ht : 0 ≤ t) (hr : 0 ≤ r) : Took r d (h - n) t (A ++ [t]) (M ++ [n]) := by
  have hlen := H.len
  have now : ∀ i, i < (A ++ [t]).length → ((M ++ [n]).drop i).sum + (h - n) ≤ d + r * (t - (A ++ [t])[i]?.getD 0) := fun i hi => by
    rw [List.length_append, List.length_singleton] at hi
    rcases Nat.lt_or_ge i A.length with hl | hl
    · rw [get_end hl, List.drop_append_of_le_length (by omega), List.sum_append]
      have h1 := H.now i hl
      simp only [List.sum_cons, List.sum_nil]
      omega
    · obtain rfl : i = A.length := by omega
      rw [get_last, ← hlen, List.drop_left]
      simp only [List.sum_cons, List.sum_nil, Int.sub_self, Int.mul_zero]
      omega
  refine ⟨by simp [hlen], fun k hk => ?_, now, fun i k hik hk => ?_⟩
  · rw [List.length_append, List.length_singleton] at hk
    rcases Nat.lt_or_ge k A.length with hl | hl
    · rw [get_end hl, get_end (by omega)]
      exact H.num k hl
    · obtain rfl : k = A.length := by omega
      rw [get_last, ← hlen, get_last]
      exact ⟨ht, Int.le_refl _, hn.1, by omega⟩
  · rw [List.length_append, List.length_singleton] at hk
    rcases Nat.lt_or_ge k A.length with hl | hl
    · rw [get_end hl, get_end (by omega), List.drop_append_of_le_length (by omega), List.take_append_of_le_length (by rw [List.length_drop]; omega)]
      exact H.all i k hik hl
    · obtain rfl : k = A.length := by omega
      have h1 := now i (by simp; omega)
      rw [get_last, List.take_of_length_le (by simp; omega)]
      omega
theorem sum_step {l : List Int} {k : Nat} (i : Nat) (hik : i ≤ k) (hk : k < l.length) : ((l.drop i).take (k + 1 - i)).sum = ((l.drop i).take (k - i)).sum + l[k]?.getD 0 := by
  have e : k + 1 - i = (k - i) + 1 := by omega
  rw [e, List.take_add_one, List.sum_append, List.getElem?_drop, show i + (k - i) = k by omega, List.getElem?_eq_getElem hk]
  simp
theorem sum_in (l : List Int) (N : Nat) (h : ∀ k : Nat, k < l.length → 0 ≤ l[k]?.getD 0 ∧ l[k]?.getD 0 ≤ 100) (i k : Nat) (hik : i ≤ k) (hk : k ≤ l.length) : 0 ≤ ((l.drop i).take (k - i)).sum ∧ ((l.drop i).take (k - i)).sum ≤ 100 * ((k - i : Nat) : Int) := by
  induction k with
  | zero => simp
  | succ k ih =>
    rcases Nat.lt_or_ge k i with hl | hl
    · obtain rfl : i = k + 1 := by omega
      simp
    · rw [sum_step i hl (by omega)]
      have h1 := ih hl (by omega)
      have h2 := h k (by omega)
      omega
end Go.Proofs.Ytfinfdcpepiadaa.Bucket
