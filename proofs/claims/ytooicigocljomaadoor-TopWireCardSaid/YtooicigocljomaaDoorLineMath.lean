/- Line codes by lists: the codes, what numbers are as bits, the turns of a wire. No statement is proved here. -/
import Derived.Test.YtooicigocljomaaDoorKit
namespace Go.Proofs.YtooicigocljomaaDoor.LineMath
open Go.RowKit
set_option linter.unusedVariables false
set_option maxRecDepth 20000

/-- The codes, one behind the other. -/
def tab : List Int := [1,1,1,1,0, 0,1,0,0,1, 1,0,1,0,0, 1,0,1,0,1, 0,1,0,1,0, 0,1,0,1,1, 0,1,1,1,0, 0,1,1,1,1, 1,0,0,1,0, 1,0,0,1,1, 1,0,1,1,0, 1,0,1,1,1, 1,1,0,1,0, 1,1,0,1,1, 1,1,1,0,0, 1,1,1,0,1]
def at5 (n i : Nat) : Int := tab[5 * n + i]?.getD 0
def code (n : Nat) : List Int := [at5 n 0, at5 n 1, at5 n 2, at5 n 3, at5 n 4]
theorem code_len (n : Nat) : (code n).length = 5 := rfl

/-- Every number is from 0 to hi. -/
def upto (hi : Int) (l : List Int) : Bool := l.all fun x => decide (0 ≤ x) && decide (x ≤ hi)
theorem upto_iff {hi : Int} {l : List Int} : upto hi l = true ↔ ∀ x ∈ l, 0 ≤ x ∧ x ≤ hi := by simp [upto]
theorem upto_of {hi : Int} {l : List Int} (h : ∀ k : Nat, k < l.length → 0 ≤ l[k]?.getD 0 ∧ l[k]?.getD 0 ≤ hi) : upto hi l = true := by
  refine upto_iff.2 fun x hx => ?_
  obtain ⟨k, hk, rfl⟩ := List.getElem_of_mem hx
  have := h k hk
  rwa [List.getElem?_eq_getElem hk] at this
theorem upto_get {hi : Int} {l : List Int} (h : upto hi l = true) {k : Nat} (hk : k < l.length) : 0 ≤ l[k]?.getD 0 ∧ l[k]?.getD 0 ≤ hi := by
  rw [List.getElem?_eq_getElem hk]
  exact upto_iff.1 h _ (List.getElem_mem hk)
theorem upto_false {hi : Int} {l : List Int} {k : Nat} (hk : k < l.length) (h : ¬ (0 ≤ l[k]?.getD 0 ∧ l[k]?.getD 0 ≤ hi)) : upto hi l = false := by
  cases hb : upto hi l with
  | false => rfl
  | true => exact absurd (upto_get hb hk) h

/-- What is wrong with some numbers. -/
def bad (lim : Nat) (hi : Int) (l : List Int) : Int := if lim < l.length then 4 else if upto hi l = true then 0 else 1
theorem bad_zero {lim : Nat} {hi : Int} {l : List Int} (h : bad lim hi l = 0) : l.length ≤ lim ∧ upto hi l = true := by
  unfold bad at h
  by_cases h1 : lim < l.length
  · simp [h1] at h
  · rw [if_neg h1] at h
    split at h
    · rename_i h2; exact ⟨by omega, h2⟩
    · cases h
theorem bad_of {lim : Nat} {hi : Int} {l : List Int} (h : l.length ≤ lim) (hb : upto hi l = true) : bad lim hi l = 0 := by
  unfold bad; rw [if_neg (by omega), if_pos hb]

/-- The bits of some numbers. -/
def five (l : List Int) : List Int := l.flatMap fun x => code x.toNat
theorem five_nil : five [] = [] := rfl
theorem five_snoc (l : List Int) (x : Int) : five (l ++ [x]) = five l ++ code x.toNat := by simp [five]
theorem five_len (l : List Int) : (five l).length = 5 * l.length := by
  induction l with
  | nil => rfl
  | cons x l ih =>
    have : five (x :: l) = code x.toNat ++ five l := rfl
    rw [this, List.length_append, ih, code_len, List.length_cons]; omega
theorem five_cons (x : Int) (l : List Int) : five (x :: l) = code x.toNat ++ five l := rfl
theorem tab_bits : ∀ x ∈ tab, x = 0 ∨ x = 1 := by decide
theorem tab_get (i : Nat) : tab[i]?.getD 0 = 0 ∨ tab[i]?.getD 0 = 1 := by
  by_cases h : i < tab.length
  · rw [List.getElem?_eq_getElem h]; exact tab_bits _ (List.getElem_mem h)
  · rw [List.getElem?_eq_none (by omega)]; exact .inl rfl
theorem code_bits (n : Nat) : upto 1 (code n) = true := by
  refine upto_iff.2 fun x hx => ?_
  simp only [code, at5, List.mem_cons, List.not_mem_nil, or_false] at hx
  rcases hx with rfl | rfl | rfl | rfl | rfl
  all_goals (rcases tab_get _ with h | h <;> rw [h] <;> decide)
theorem five_bits (l : List Int) : upto 1 (five l) = true := by
  refine upto_iff.2 fun x hx => ?_
  simp only [five, List.mem_flatMap] at hx
  obtain ⟨y, _, hy⟩ := hx
  exact upto_iff.1 (code_bits _) x hy

/-- Two bits are not the same. -/
def xr (a b : Int) : Int := if a = b then 0 else 1
theorem xr_bit (a b : Int) : 0 ≤ xr a b ∧ xr a b ≤ 1 := by unfold xr; split <;> omega
theorem bit_cases {x : Int} (h : 0 ≤ x ∧ x ≤ 1) : x = 0 ∨ x = 1 := by omega

/-- The turns of a wire, from a level on. -/
def turns (s : Int) : List Int → List Int
  | [] => []
  | b :: l => xr s b :: turns (xr s b) l
/-- The level at which some bits leave a wire. -/
def level (s : Int) (l : List Int) : Int := l.foldl xr s
theorem turns_len (l : List Int) : ∀ s, (turns s l).length = l.length := by
  induction l with
  | nil => intro s; rfl
  | cons b l ih => intro s; simp [turns, ih]
theorem turns_snoc (l : List Int) (b : Int) : ∀ s, turns s (l ++ [b]) = turns s l ++ [level s (l ++ [b])] := by
  induction l with
  | nil => intro s; rfl
  | cons c l ih =>
    intro s
    show xr s c :: turns (xr s c) (l ++ [b]) = _
    rw [ih]; rfl
theorem level_snoc (s : Int) (l : List Int) (b : Int) : level s (l ++ [b]) = xr (level s l) b := by simp [level]
theorem level_bit {s : Int} (hs : 0 ≤ s ∧ s ≤ 1) (l : List Int) : 0 ≤ level s l ∧ level s l ≤ 1 := by
  induction l generalizing s with
  | nil => exact hs
  | cons b l ih => exact ih (xr_bit s b)
theorem turns_bits (l : List Int) : ∀ s, upto 1 (turns s l) = true := by
  induction l with
  | nil => intro s; rfl
  | cons b l ih =>
    intro s
    refine upto_iff.2 fun x hx => ?_
    rcases List.mem_cons.1 hx with rfl | hx
    · exact xr_bit _ _
    · exact upto_iff.1 (ih _) x hx

/-- The bits of some turns, from a level on. -/
def unt (s : Int) : List Int → List Int
  | [] => []
  | b :: l => xr s b :: unt b l
theorem unt_len (l : List Int) : ∀ s, (unt s l).length = l.length := by
  induction l with
  | nil => intro s; rfl
  | cons b l ih => intro s; simp [unt, ih]
theorem unt_snoc (l : List Int) (b : Int) : ∀ s, unt s (l ++ [b]) = unt s l ++ [xr (l.getLast?.getD s) b] := by
  induction l with
  | nil => intro s; rfl
  | cons c l ih =>
    intro s
    show xr s c :: unt c (l ++ [b]) = _
    rw [ih]
    cases l with
    | nil => rfl
    | cons d l => simp [unt, List.getLast?_cons]
theorem unt_bits (l : List Int) : ∀ s, upto 1 (unt s l) = true := by
  induction l with
  | nil => intro s; rfl
  | cons b l ih =>
    intro s
    refine upto_iff.2 fun x hx => ?_
    rcases List.mem_cons.1 hx with rfl | hx
    · exact xr_bit _ _
    · exact upto_iff.1 (ih _) x hx
theorem unt_get (l : List Int) : ∀ (s : Int) (k : Nat), k < l.length → (unt s l)[k]?.getD 0 = xr (if k = 0 then s else l[k - 1]?.getD 0) (l[k]?.getD 0) := by
  induction l with
  | nil => intro s k hk; simp at hk
  | cons b l ih =>
    intro s k hk
    cases k with
    | zero => rfl
    | succ k =>
      show (unt b l)[k]?.getD 0 = _
      rw [ih b k (by simpa using hk)]
      cases k with
      | zero => rfl
      | succ k => rfl

/-- What is turned is read. -/
theorem unt_turns (l : List Int) (h : upto 1 l = true) : ∀ s, 0 ≤ s ∧ s ≤ 1 → unt s (turns s l) = l := by
  induction l with
  | nil => intro s _; rfl
  | cons b l ih =>
    intro s hs
    have hb := upto_iff.1 h b (by simp)
    show xr s (xr s b) :: unt (xr s b) (turns (xr s b) l) = b :: l
    rw [ih (upto_iff.2 fun x hx => upto_iff.1 h x (by simp [hx])) _ (xr_bit s b)]
    congr 1
    rcases bit_cases hs with rfl | rfl <;> rcases bit_cases hb with rfl | rfl <;> decide

/-- The number of a code. -/
def num (c : List Int) : Option Nat := (List.range 16).find? fun n => code n == c
theorem num_code : ∀ n : Nat, n < 16 → num (code n) = some n := by decide
theorem num_some {c : List Int} {n : Nat} (h : num c = some n) : n < 16 ∧ code n = c := by
  have h1 := List.find?_some h
  have h2 := List.mem_of_find?_eq_some h
  exact ⟨List.mem_range.1 h2, by simpa using h1⟩
theorem num_at {c : List Int} {n : Nat} (hn : n < 16) (h : code n = c) : num c = some n := by rw [← h]; exact num_code n hn
theorem num_none {c : List Int} (h : ∀ n : Nat, n < 16 → code n ≠ c) : num c = none := by
  cases e : num c with
  | none => rfl
  | some n => exact absurd (num_some e).2 (h n (num_some e).1)

/-- The k-th five of some bits. -/
def cut5 (l : List Int) (k : Nat) : List Int := [l[5 * k]?.getD 0, l[5 * k + 1]?.getD 0, l[5 * k + 2]?.getD 0, l[5 * k + 3]?.getD 0, l[5 * k + 4]?.getD 0]
/-- The numbers of the first fives of some bits. -/
def four (l : List Int) : Nat → Option (List Int)
  | 0 => some []
  | k + 1 => match four l k, num (cut5 l k) with
    | some x, some n => some (x ++ [(n : Int)])
    | _, _ => none
theorem four_some {l : List Int} {k : Nat} {x : List Int} (h : four l k = some x) : x.length = k ∧ upto 15 x = true := by
  induction k generalizing x with
  | zero => cases h; exact ⟨rfl, rfl⟩
  | succ k ih =>
    unfold four at h
    split at h
    · rename_i y n h1 h2
      cases h
      obtain ⟨h3, h4⟩ := ih h1
      refine ⟨by simp [h3], upto_iff.2 fun x hx => ?_⟩
      rcases List.mem_append.1 hx with hx | hx
      · exact upto_iff.1 h4 x hx
      · have := (num_some h2).1
        have e : x = (n : Int) := by simpa using hx
        omega
    · cases h
theorem four_le {l : List Int} {k m : Nat} (h : k ≤ m) (hm : four l k = none) : four l m = none := by
  induction m with
  | zero => obtain rfl : k = 0 := by omega
            exact hm
  | succ m ih =>
    by_cases e : k = m + 1
    · rw [← e]; exact hm
    · unfold four; rw [ih (by omega)]

theorem cut5_five (l : List Int) (h : upto 15 l = true) : ∀ k : Nat, k < l.length → cut5 (five l) k = code (l[k]?.getD 0).toNat := by
  induction l with
  | nil => intro k hk; simp at hk
  | cons x l ih =>
    intro k hk
    cases k with
    | zero => rfl
    | succ k =>
      have e := ih (upto_iff.2 fun y hy => upto_iff.1 h y (by simp [hy])) k (by simpa using hk)
      have key : ∀ i : Nat, (five (x :: l))[5 * (k + 1) + i]? = (five l)[5 * k + i]? := fun i => by
        rw [five_cons, List.getElem?_append_right (by rw [code_len]; omega), code_len]
        congr 1
        omega
      have k0 := key 0
      simp only [Nat.add_zero] at k0
      unfold cut5 at e ⊢
      rw [k0, key 1, key 2, key 3, key 4, e]
      rfl
theorem four_five (l : List Int) (h : upto 15 l = true) : four (five l) l.length = some l := by
  have key : ∀ k : Nat, k ≤ l.length → four (five l) k = some (l.take k) := by
    intro k
    induction k with
    | zero => intro _; simp [four]
    | succ k ih =>
      intro hk
      have hb := upto_get h (k := k) (by omega)
      unfold four
      rw [ih (by omega), cut5_five l h k (by omega), num_code _ (by omega)]
      show some (l.take k ++ [(((l[k]?.getD 0).toNat : Nat) : Int)]) = _
      rw [List.take_succ_eq_append_getElem (by omega), Int.toNat_of_nonneg hb.1, List.getElem?_eq_getElem (by omega)]
      rfl
  have := key l.length (Nat.le_refl _)
  rwa [List.take_length] at this

/-- How many zeros are behind, one bit later. -/
def zer (z : Nat) (x : Int) : Nat := if x = 1 then 0 else z + 1
def zers (z : Nat) (l : List Int) : Nat := l.foldl zer z
theorem zers_code : ∀ n : Nat, n < 16 → ∀ z : Nat, z ≤ 2 → ∀ j : Nat, j ≤ 5 → zers z ((code n).take j) ≤ (if j = 5 then 2 else 3) := by decide
theorem zers_five (l : List Int) (h : upto 15 l = true) : ∀ z : Nat, z ≤ 2 → ∀ k : Nat, k ≤ 5 * l.length → zers z ((five l).take k) ≤ 3 := by
  induction l with
  | nil => intro z hz k hk; simp [five, zers]; omega
  | cons x l ih =>
    intro z hz k hk
    have hx := upto_iff.1 h x (by simp)
    have hn : x.toNat < 16 := by omega
    rw [five_cons]
    by_cases h5 : k ≤ 5
    · rw [List.take_append_of_le_length (by rw [code_len]; exact h5)]
      have := zers_code x.toNat hn z hz k h5
      split at this <;> omega
    · have h1 := zers_code x.toNat hn z hz 5 (Nat.le_refl _)
      rw [if_pos rfl, List.take_of_length_le (by rw [code_len]; omega)] at h1
      have e : (code x.toNat ++ five l).take k = code x.toNat ++ (five l).take (k - 5) := by
        rw [List.take_append, List.take_of_length_le (by rw [code_len]; omega), code_len]
      rw [e]
      unfold zers
      rw [List.foldl_append]
      exact ih (upto_iff.2 fun y hy => upto_iff.1 h y (by simp [hy])) _ h1 (k - 5) (by simp at hk; omega)
end Go.Proofs.YtooicigocljomaaDoor.LineMath
