/- A flow's window, threshold and counter as three numbers, and what becomes of them. No statement is proved here. -/
import Derived.Test.YtbemlbjnjpjlhaaBase
namespace Go.Proofs.Ytbemlbjnjpjlhaa.Reno
set_option linter.unusedVariables false

/-- Window, threshold, counter. -/
abbrev St := Int × Int × Int
def told (s : St) : St :=
  if s.1 = 1000 then s
  else if s.1 < s.2.1 then (s.1 + 1, s.2.1, s.2.2)
  else if s.2.2 + 1 = s.1 then (s.1 + 1, s.2.1, 0)
  else (s.1, s.2.1, s.2.2 + 1)
def half (a : Int) : Int := if a.tdiv 2 < 2 then 2 else a.tdiv 2
def lost (s : St) : St := (half s.1, half s.1, 0)
def late (s : St) : St := (1, half s.1, 0)
def Ok (s : St) : Prop := 1 ≤ s.1 ∧ s.1 ≤ 1000 ∧ 2 ≤ s.2.1 ∧ s.2.1 ≤ 1000 ∧ 0 ≤ s.2.2 ∧ s.2.2 < s.1
theorem half_in {a : Int} (h : 1 ≤ a) (h2 : a ≤ 1000) : 2 ≤ half a ∧ half a ≤ 500 := by
  unfold half
  rw [Int.tdiv_eq_ediv_of_nonneg (by omega)]
  split <;> omega
theorem ok_new : Ok (1, 1000, 0) := by unfold Ok; simp
theorem ok_told {s : St} (h : Ok s) : Ok (told s) := by
  obtain ⟨a, b, k⟩ := s
  simp only [Ok, told] at h ⊢
  repeat' split
  all_goals simp only
  all_goals omega
theorem ok_lost {s : St} (h : Ok s) : Ok (lost s) := by
  obtain ⟨a, b, k⟩ := s
  have h1 : 1 ≤ a := h.1
  have h2 : a ≤ 1000 := h.2.1
  have := half_in h1 h2
  simp only [Ok, lost]
  omega
theorem ok_late {s : St} (h : Ok s) : Ok (late s) := by
  obtain ⟨a, b, k⟩ := s
  have h1 : 1 ≤ a := h.1
  have h2 : a ≤ 1000 := h.2.1
  have := half_in h1 h2
  simp only [Ok, late]
  omega
theorem told_full {b k : Int} : told (1000, b, k) = (1000, b, k) := by simp [told]
theorem told_fast {a b k : Int} (h : a ≠ 1000) (h2 : a < b) : told (a, b, k) = (a + 1, b, k) := by simp [told, h, h2]
theorem told_turn {a b k : Int} (h : a ≠ 1000) (h2 : ¬ a < b) (h3 : k + 1 = a) : told (a, b, k) = (a + 1, b, 0) := by simp [told, h, h2, h3]
theorem told_slow {a b k : Int} (h : a ≠ 1000) (h2 : ¬ a < b) (h3 : k + 1 ≠ a) : told (a, b, k) = (a, b, k + 1) := by simp [told, h, h2, h3]
/-- So many told. -/
def tolds : Nat → St → St
  | 0, s => s
  | n + 1, s => tolds n (told s)
theorem tolds_end (n : Nat) (s : St) : tolds (n + 1) s = told (tolds n s) := by
  induction n generalizing s with
  | zero => rfl
  | succ n ih => exact ih (told s)
theorem tolds_add (m n : Nat) (s : St) : tolds (m + n) s = tolds n (tolds m s) := by
  induction m generalizing s with
  | zero => rw [Nat.zero_add]; rfl
  | succ m ih => rw [Nat.succ_add]; exact ih (told s)
theorem ok_tolds {s : St} (h : Ok s) (n : Nat) : Ok (tolds n s) := by
  induction n generalizing s with
  | zero => exact h
  | succ n ih => exact ih (ok_told h)
theorem tolds_full (n : Nat) (b k : Int) : tolds n (1000, b, k) = (1000, b, k) := by
  induction n with
  | zero => rfl
  | succ n ih => show tolds n (told (1000, b, k)) = _; rw [told_full]; exact ih
theorem tolds_slow (n : Nat) {a b : Int} (h : a ≠ 1000) (h2 : b ≤ a) (hn : (n : Int) < a) : tolds n (a, b, 0) = (a, b, (n : Int)) := by
  induction n with
  | zero => rfl
  | succ n ih => rw [tolds_end, ih (by omega), told_slow h (by omega) (by omega)]; rfl
/-- As many told as the window is large make it one larger. -/
theorem tolds_round (n : Nat) {a b : Int} (h : a ≠ 1000) (h2 : b ≤ a) (h3 : 1 ≤ a) (hn : (n : Int) = a) : tolds n (a, b, 0) = (a + 1, b, 0) := by
  obtain ⟨m, rfl⟩ : ∃ m, n = m + 1 := ⟨n - 1, by omega⟩
  rw [tolds_end, tolds_slow m h h2 (by omega), told_turn h (by omega) (by omega)]
/-- A step of the reckoning: what is left is still to be told. -/
theorem reckon {N L : Nat} {h a : Int} {s : St} (e : tolds N s = tolds L (a, h, 0)) (h1 : a ≠ 1000) (h2 : h ≤ a) (h3 : 1 ≤ a) {m : Nat} (hm : (m : Int) = a) (hL : m ≤ L) : tolds N s = tolds (L - m) (a + 1, h, 0) := by
  obtain ⟨r, rfl⟩ : ∃ r, L = m + r := ⟨L - m, by omega⟩
  rw [e, tolds_add, tolds_round m h1 h2 h3 hm, show m + r - m = r by omega]
theorem reckoned {N L : Nat} {h a : Int} {s : St} (e : tolds N s = tolds L (a, h, 0)) (h2 : h ≤ a) (hL : a = 1000 ∨ (L : Int) < a) : (tolds N s).1 = a := by
  rw [e]
  by_cases h1 : a = 1000
  · rw [h1, tolds_full]
  · rw [tolds_slow L h1 h2 (by omega)]
end Go.Proofs.Ytbemlbjnjpjlhaa.Reno
