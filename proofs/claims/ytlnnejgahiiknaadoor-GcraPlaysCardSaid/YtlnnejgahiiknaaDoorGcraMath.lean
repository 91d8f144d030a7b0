/- The mathematics of package gcra: by when the next one is due, what is wrong with times, who may come. No statement is proved here. -/
import Derived.Test.YtlnnejgahiiknaaDoorKit
namespace Go.Proofs.YtlnnejgahiiknaaDoor.GcraMath
set_option linter.unusedVariables false

/-- The time at a place. -/
def tm (l : List Int) (k : Nat) : Int := l[k]?.getD 0
/-- The later one of two times. -/
def later (n t : Int) : Int := if n < t then t else n
/-- By when the next one is due, behind one that comes at t. -/
def nxt (s x n t : Int) : Int := if n - x ≤ t then later n t + s else n
/-- By when the one at a place is due. -/
def tat (s x : Int) (l : List Int) : Nat → Int
  | 0 => 0
  | k + 1 => nxt s x (tat s x l k) (tm l k)
/-- Whether the one at a place may come. -/
def mayAt (s x : Int) (l : List Int) (k : Nat) : Bool := decide (tat s x l k - x ≤ tm l k)
/-- Who may come, of the first ones. -/
def maysTo (s x : Int) (l : List Int) (k : Nat) : List Bool := (List.range k).map (mayAt s x l)
/-- Who may come. -/
def mays (s x : Int) (l : List Int) : List Bool := maysTo s x l l.length
/-- The time ahead of a place. -/
def lst (l : List Int) : Nat → Int
  | 0 => 0
  | k + 1 => tm l k
/-- What is wrong with times. -/
def bad : Int → List Int → Int
  | _, [] => 0
  | u, t :: r => if 0 ≤ t ∧ t ≤ 1000 then (if t < u then 7 else bad t r) else 1
/-- The step and the slack are right. -/
abbrev Right (s x : Int) : Prop := (1 ≤ s ∧ s ≤ 20) ∧ (0 ≤ x ∧ x ≤ 100)
/-- What is wrong. -/
def code (s x : Int) (l : List Int) : Int := if Right s x then (if 200 < l.length then 4 else bad 0 l) else 1
/-- What a bucket holds. -/
def pos (y : Int) : Int := if 0 < y then y else 0

variable {s x : Int} {l : List Int}
theorem maysTo_len (k : Nat) : (maysTo s x l k).length = k := by simp [maysTo]
theorem maysTo_succ (k : Nat) : maysTo s x l (k + 1) = maysTo s x l k ++ [mayAt s x l k] := by simp [maysTo, List.range_succ]
theorem mays_len : (mays s x l).length = l.length := maysTo_len _
theorem mays_get {k : Nat} (hk : k < l.length) : (mays s x l)[k]? = some (mayAt s x l k) := by
  unfold mays maysTo
  rw [List.getElem?_map, List.getElem?_range hk]; rfl
theorem drop_tm {k : Nat} (hk : k < l.length) : l.drop k = tm l k :: l.drop (k + 1) := by
  unfold tm
  rw [List.drop_eq_getElem_cons hk, List.getElem?_eq_getElem hk]; rfl
/-- From the places ahead on, the same is wrong. -/
def Behind (l : List Int) (k : Nat) : Prop := bad 0 l = bad (lst l k) (l.drop k)
theorem left_zero : Behind l 0 := rfl
theorem left_step {k : Nat} (hk : k < l.length) (h : Behind l k) (h1 : 0 ≤ tm l k ∧ tm l k ≤ 1000) (h2 : ¬ tm l k < lst l k) : Behind l (k + 1) := by
  unfold Behind at h ⊢
  rw [h, drop_tm hk]
  show (if 0 ≤ tm l k ∧ tm l k ≤ 1000 then (if tm l k < lst l k then 7 else bad (tm l k) (l.drop (k + 1))) else 1) = _
  rw [if_pos h1, if_neg h2]; rfl
theorem left_range {k : Nat} (hk : k < l.length) (h : Behind l k) (h1 : ¬ (0 ≤ tm l k ∧ tm l k ≤ 1000)) : bad 0 l = 1 := by
  unfold Behind at h
  rw [h, drop_tm hk]
  show (if 0 ≤ tm l k ∧ tm l k ≤ 1000 then (if tm l k < lst l k then 7 else bad (tm l k) (l.drop (k + 1))) else 1) = _
  rw [if_neg h1]
theorem left_state {k : Nat} (hk : k < l.length) (h : Behind l k) (h1 : 0 ≤ tm l k ∧ tm l k ≤ 1000) (h2 : tm l k < lst l k) : bad 0 l = 7 := by
  unfold Behind at h
  rw [h, drop_tm hk]
  show (if 0 ≤ tm l k ∧ tm l k ≤ 1000 then (if tm l k < lst l k then 7 else bad (tm l k) (l.drop (k + 1))) else 1) = _
  rw [if_pos h1, if_pos h2]
theorem left_end (h : Behind l l.length) : bad 0 l = 0 := by
  unfold Behind at h
  rw [h, List.drop_length]; rfl
theorem left_of (h : bad 0 l = 0) : ∀ k, k ≤ l.length → Behind l k
  | 0, _ => left_zero
  | k + 1, hk => by
    have hl := left_of h k (by omega)
    by_cases h1 : 0 ≤ tm l k ∧ tm l k ≤ 1000
    · by_cases h2 : tm l k < lst l k
      · have := left_state (by omega) hl h1 h2; omega
      · exact left_step (by omega) hl h1 h2
    · have := left_range (by omega) hl h1; omega
theorem fine_of (h : bad 0 l = 0) {k : Nat} (hk : k < l.length) : (0 ≤ tm l k ∧ tm l k ≤ 1000) ∧ lst l k ≤ tm l k := by
  have hl := left_of h k (by omega)
  by_cases h1 : 0 ≤ tm l k ∧ tm l k ≤ 1000
  · by_cases h2 : tm l k < lst l k
    · have := left_state (by omega) hl h1 h2; omega
    · exact ⟨h1, by omega⟩
  · have := left_range (by omega) hl h1; omega
theorem bad_of (h : ∀ k, k < l.length → (0 ≤ tm l k ∧ tm l k ≤ 1000) ∧ lst l k ≤ tm l k) : bad 0 l = 0 := by
  have : ∀ k, k ≤ l.length → Behind l k := fun k => by
    induction k with
    | zero => exact fun _ => left_zero
    | succ k ih => exact fun hk => left_step (by omega) (ih (by omega)) (h k (by omega)).1 (by have := (h k (by omega)).2; omega)
  exact left_end (this _ (Nat.le_refl _))
theorem bad_cases : ∀ (l : List Int) (u : Int), bad u l = 0 ∨ bad u l = 1 ∨ bad u l = 7
  | [], _ => .inl rfl
  | t :: r, u => by
    unfold bad
    split
    · split
      · exact .inr (.inr rfl)
      · exact bad_cases r t
    · exact .inr (.inl rfl)
theorem code_zero (h : code s x l = 0) : Right s x ∧ l.length ≤ 200 ∧ bad 0 l = 0 := by
  unfold code at h
  split at h
  · rename_i h1
    split at h
    · omega
    · rename_i h2
      exact ⟨h1, by omega, h⟩
  · omega
theorem code_of (h1 : Right s x) (h2 : l.length ≤ 200) (h3 : bad 0 l = 0) : code s x l = 0 := by unfold code; rw [if_pos h1, if_neg (by omega), h3]
theorem code_in : code s x l = 0 ∨ code s x l = 1 ∨ code s x l = 4 ∨ code s x l = 7 := by
  unfold code
  split
  · split
    · exact .inr (.inr (.inl rfl))
    · rcases bad_cases l 0 with h | h | h <;> rw [h] <;> omega
  · exact .inr (.inl rfl)

/-- How a gate stands: its numbers. -/
def Ok (s x n t : Int) : Prop := Right s x ∧ 0 ≤ n ∧ n ≤ t + x + s ∧ 0 ≤ t ∧ t ≤ 1000
theorem ok_new {s x : Int} (h : Right s x) : Ok s x 0 0 := by unfold Ok Right at *; omega
theorem ok_nxt {s x n t a : Int} (h : Ok s x n t) (h1 : 0 ≤ a ∧ a ≤ 1000) (h2 : t ≤ a) : Ok s x (nxt s x n a) a := by
  unfold nxt later Ok Right at *
  split
  · split <;> omega
  · omega
theorem ok_tat (h0 : Right s x) (h : bad 0 l = 0) : ∀ k, k ≤ l.length → Ok s x (tat s x l k) (lst l k)
  | 0, _ => ok_new h0
  | k + 1, hk => by
    have hf := fine_of h (k := k) (by omega)
    exact ok_nxt (ok_tat h0 h k (by omega)) hf.1 hf.2

theorem pos_in (y : Int) : 0 ≤ pos y ∧ y ≤ pos y ∧ (pos y = 0 ∨ pos y = y) := by unfold pos; split <;> omega
/-- What is in the bucket is how far the next one is ahead. -/
theorem pos_step {n t a : Int} (h : t ≤ a) : pos (pos (n - t) - (a - t)) = pos (n - a) := by
  unfold pos
  split <;> split <;> split <;> omega
theorem pos_may {s x n t a : Int} (hO : Ok s x n t) : (pos (n - a) ≤ x ↔ n - x ≤ a) := by
  unfold pos Ok Right at *
  split <;> omega
theorem pos_yes {s x n t a : Int} (hO : Ok s x n t) (h : n - x ≤ a) : pos (n - a) + s = pos (nxt s x n a - a) := by
  unfold nxt later pos Ok Right at *
  rw [if_pos h]
  split <;> split <;> split <;> omega
theorem pos_no {s x n t a : Int} (h : ¬ n - x ≤ a) : pos (n - a) = pos (nxt s x n a - a) := by
  unfold nxt
  rw [if_neg h]

/-- The list in memory while it is written. -/
def half (s x : Int) (l : List Int) (k : Nat) : List Bool := maysTo s x l k ++ List.replicate (l.length - k) false
theorem half_zero : half s x l 0 = List.replicate l.length false := by simp [half, maysTo]
theorem half_len {k : Nat} (h : k ≤ l.length) : (half s x l k).length = l.length := by simp [half, maysTo_len]; omega
theorem half_end : half s x l l.length = mays s x l := by simp [half, mays]
theorem half_step {k : Nat} (h : k < l.length) : half s x l (k + 1) = (maysTo s x l k ++ mayAt s x l k :: List.replicate (l.length - (k + 1)) false) := by
  unfold half
  rw [maysTo_succ, List.append_assoc]; rfl
theorem half_split {k : Nat} (h : k < l.length) : half s x l k = (maysTo s x l k ++ false :: List.replicate (l.length - (k + 1)) false) := by
  unfold half
  rw [show l.length - k = (l.length - (k + 1)) + 1 by omega, List.replicate_succ]
theorem half_get {k : Nat} (h : k < l.length) : (half s x l k)[k]? = some false := by
  rw [half_split h, List.getElem?_append_right (by rw [maysTo_len]; exact Nat.le_refl _), maysTo_len, Nat.sub_self]; rfl
theorem half_yes {k : Nat} (h : k < l.length) (hm : mayAt s x l k = true) : (half s x l k).set k true = half s x l (k + 1) := by
  rw [half_split h, half_step h, hm, List.set_append_right _ _ (by rw [maysTo_len]; exact Nat.le_refl _), maysTo_len, Nat.sub_self]
  rfl
theorem half_no {k : Nat} (h : k < l.length) (hm : mayAt s x l k = false) : half s x l k = half s x l (k + 1) := by
  rw [half_split h, half_step h, hm]

/-- All times so much later. -/
theorem tm_map {b : Int} {k : Nat} (hk : k < l.length) : tm (l.map (· + b)) k = tm l k + b := by
  unfold tm
  rw [List.getElem?_map, List.getElem?_eq_getElem hk]; rfl
theorem tat_shift {b : Int} (hb : 0 ≤ b) (h0 : Right s x) (h : bad 0 l = 0) : ∀ k, k + 1 ≤ l.length → tat s x (l.map (· + b)) (k + 1) = tat s x l (k + 1) + b
  | 0, hk => by
    have hf := fine_of h (k := 0) (by omega)
    show nxt s x 0 (tm (l.map (· + b)) 0) = nxt s x 0 (tm l 0) + b
    rw [tm_map (by omega)]
    unfold nxt later Right at *
    rw [if_pos (show 0 - x ≤ tm l 0 + b by omega), if_pos (show 0 - x ≤ tm l 0 by omega)]
    split <;> split <;> omega
  | k + 1, hk => by
    have ih := tat_shift hb h0 h k (by omega)
    show nxt s x (tat s x (l.map (· + b)) (k + 1)) (tm (l.map (· + b)) (k + 1)) = nxt s x (tat s x l (k + 1)) (tm l (k + 1)) + b
    rw [ih, tm_map (by omega)]
    unfold nxt later
    split <;> split <;> (try split) <;> (try split) <;> omega
theorem mays_shift {b : Int} (hb : 0 ≤ b) (h0 : Right s x) (h : bad 0 l = 0) : mays s x (l.map (· + b)) = mays s x l := by
  refine List.ext_getElem? fun k => ?_
  by_cases hk : k < l.length
  · rw [mays_get (by rw [List.length_map]; exact hk), mays_get hk]
    congr 1
    unfold mayAt
    rw [tm_map hk]
    have hf := fine_of h hk
    rcases k with _|k
    · show decide (0 - x ≤ _) = decide (0 - x ≤ _)
      unfold Right at h0
      rw [decide_eq_true (by omega), decide_eq_true (by omega)]
    · rw [tat_shift hb h0 h k (by omega)]
      exact decide_eq_decide.2 (by omega)
  · rw [List.getElem?_eq_none (by rw [mays_len, List.length_map]; omega), List.getElem?_eq_none (by rw [mays_len]; omega)]
theorem bad_shift {b : Int} (hb : 0 ≤ b) (h : bad 0 l = 0) (hl : ∀ k, k < l.length → tm l k ≤ 1000 - b) : bad 0 (l.map (· + b)) = 0 := by
  refine bad_of fun k hk => ?_
  rw [List.length_map] at hk
  have hf := fine_of h hk
  have h3 := hl k hk
  rw [tm_map hk]
  refine ⟨by omega, ?_⟩
  rcases k with _|k
  · show (0 : Int) ≤ _; omega
  · have hf2 : tm l k ≤ tm l (k + 1) := hf.2
    show tm (l.map (· + b)) k ≤ _
    rw [tm_map (by omega)]; omega

/-- No more come than one each so many ticks, and what the slack lets. -/
theorem tat_more {k : Nat} (hm : mayAt s x l k = true) : tat s x l k + s ≤ tat s x l (k + 1) ∧ tm l k + s ≤ tat s x l (k + 1) := by
  show _ ≤ nxt s x (tat s x l k) (tm l k) ∧ _ ≤ nxt s x (tat s x l k) (tm l k)
  unfold mayAt at hm
  unfold nxt later
  rw [if_pos (of_decide_eq_true hm)]
  split <;> omega
theorem tat_same {k : Nat} (hm : mayAt s x l k = false) : tat s x l (k + 1) = tat s x l k := by
  show nxt s x (tat s x l k) (tm l k) = _
  unfold mayAt at hm
  unfold nxt
  rw [if_neg (of_decide_eq_false hm)]
theorem may_due {k : Nat} (hm : mayAt s x l k = true) : tat s x l k - x ≤ tm l k := of_decide_eq_true hm
/-- What holds of the ones behind i. -/
def Rate (s x : Int) (l : List Int) (i k m : Nat) : Prop := m ≤ k - i ∧ (mayAt s x l i = true → (k = i ∧ m = 0) ∨ (i < k ∧ tm l i + (m : Int) * s ≤ tat s x l k))
theorem rate_zero {i : Nat} : Rate s x l i i 0 := ⟨by omega, fun _ => .inl ⟨rfl, rfl⟩⟩
theorem rate_no {i k m : Nat} (h : Rate s x l i k m) (hik : i ≤ k) (hm : mayAt s x l k = false) : Rate s x l i (k + 1) m := by
  refine ⟨by have := h.1; omega, fun hi => ?_⟩
  rcases h.2 hi with ⟨rfl, rfl⟩ | ⟨h1, h2⟩
  · rw [hm] at hi; cases hi
  · exact .inr ⟨by omega, by rw [tat_same hm]; exact h2⟩
theorem rate_yes {i k m : Nat} (h : Rate s x l i k m) (hik : i ≤ k) (hm : mayAt s x l k = true) : Rate s x l i (k + 1) (m + 1) := by
  have h3 := tat_more hm
  refine ⟨by have := h.1; omega, fun hi => .inr ⟨by omega, ?_⟩⟩
  have e : ((m + 1 : Nat) : Int) * s = (m : Int) * s + s := by rw [Int.natCast_add, Int.add_mul]; simp
  rw [e]
  rcases h.2 hi with ⟨rfl, rfl⟩ | ⟨h1, h2⟩
  · simp; omega
  · omega
theorem rate_law {i k m : Nat} (h : Rate s x l i k m) (hx : 0 ≤ x) (hi : mayAt s x l i = true) (hm : mayAt s x l k = true) : tm l i + (m : Int) * s - x ≤ tm l k := by
  have h3 := may_due hm
  rcases h.2 hi with ⟨rfl, rfl⟩ | ⟨h1, h2⟩
  · simp; omega
  · omega

/-- Without slack: the last one that came. -/
def prev (s : Int) (l : List Int) (k : Nat) : Int := tat s 0 l k - s
theorem prev_zero : prev s l 0 = -s := by simp [prev, tat]
theorem prev_may {k : Nat} : mayAt s 0 l k = decide (s ≤ tm l k - prev s l k) := by
  unfold mayAt prev
  exact decide_eq_decide.2 (by omega)
theorem prev_yes {k : Nat} (hm : mayAt s 0 l k = true) : prev s l (k + 1) = tm l k := by
  have h := may_due hm
  show nxt s 0 (tat s 0 l k) (tm l k) - s = _
  unfold nxt later
  rw [if_pos h]
  split <;> omega
theorem prev_no {k : Nat} (hm : mayAt s 0 l k = false) : prev s l (k + 1) = prev s l k := by
  unfold prev
  rw [tat_same hm]
end Go.Proofs.YtlnnejgahiiknaaDoor.GcraMath
