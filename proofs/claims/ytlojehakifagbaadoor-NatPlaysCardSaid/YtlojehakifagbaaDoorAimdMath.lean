/- Rates that are halved together, or grow together: by one function of a rate. No statement is proved here. -/
import Derived.Test.YtlojehakifagbaaDoorKit
namespace Go.Proofs.YtlojehakifagbaaDoor.AimdMath
set_option linter.unusedVariables false

/-- What becomes of a rate in so many steps. -/
def F (room : Int) (l : List Int) : Nat → Int → Int
  | 0 => fun x => x
  | k + 1 => fun x => if room < (l.map (F room l k)).sum then F room l k x / 2 else F room l k x + 1
def rates (room : Int) (l : List Int) (k : Nat) : List Int := l.map (F room l k)
/-- How often they were halved. -/
def H (room : Int) (l : List Int) : Nat → Nat
  | 0 => 0
  | k + 1 => H room l k + if room < (rates room l k).sum then 1 else 0
/-- Half as far, or one more. -/
def ch (d : Int) : Int := (d + 1) / 2
def chn : Nat → Int → Int
  | 0, d => d
  | k + 1, d => ch (chn k d)

variable {room : Int} {l : List Int} {k : Nat} {x y : Int}
theorem F_succ : F room l (k + 1) x = if room < (rates room l k).sum then F room l k x / 2 else F room l k x + 1 := rfl
theorem H_succ : H room l (k + 1) = H room l k + if room < (rates room l k).sum then 1 else 0 := rfl
theorem rates_zero : rates room l 0 = l := by unfold rates; simp [F]
theorem rates_len : (rates room l k).length = l.length := by unfold rates; rw [List.length_map]
theorem rates_over (h : room < (rates room l k).sum) : rates room l (k + 1) = (rates room l k).map (· / 2) := by
  unfold rates at h ⊢
  rw [List.map_map]
  refine List.map_congr_left fun x _ => ?_
  show (if room < (l.map (F room l k)).sum then F room l k x / 2 else F room l k x + 1) = _
  rw [if_pos h]; rfl
theorem rates_under (h : ¬ room < (rates room l k).sum) : rates room l (k + 1) = (rates room l k).map (· + 1) := by
  unfold rates at h ⊢
  rw [List.map_map]
  refine List.map_congr_left fun x _ => ?_
  show (if room < (l.map (F room l k)).sum then F room l k x / 2 else F room l k x + 1) = _
  rw [if_neg h]; rfl
theorem H_over (h : room < (rates room l k).sum) : H room l (k + 1) = H room l k + 1 := by rw [H_succ, if_pos h]
theorem H_under (h : ¬ room < (rates room l k).sum) : H room l (k + 1) = H room l k := by rw [H_succ, if_neg h, Nat.add_zero]
theorem H_le : H room l k ≤ k := by
  induction k with
  | zero => exact Nat.le_refl 0
  | succ k ih => rw [H_succ]; split <;> omega
theorem F_bound (hx : 0 ≤ x) : 0 ≤ F room l k x ∧ F room l k x ≤ x + k := by
  induction k with
  | zero => exact ⟨hx, by show x ≤ x + 0; omega⟩
  | succ k ih => rw [F_succ]; split <;> omega
theorem F_mono (h : x ≤ y) : F room l k x ≤ F room l k y := by
  induction k with
  | zero => exact h
  | succ k ih => rw [F_succ, F_succ]; split <;> omega
theorem ch_mono (h : x ≤ y) : ch x ≤ ch y := by unfold ch; omega
theorem ch_nonneg (h : 0 ≤ x) : 0 ≤ ch x ∧ ch x ≤ x := by unfold ch; omega
theorem chn_nonneg (h : 0 ≤ x) : 0 ≤ chn k x ∧ chn k x ≤ x := by
  induction k with
  | zero => exact ⟨h, Int.le_refl _⟩
  | succ k ih => have := ch_nonneg ih.1; show 0 ≤ ch _ ∧ ch _ ≤ _; omega
theorem chn_less (h : 0 ≤ x) : ∀ (j : Nat), chn (k + j) x ≤ chn k x
  | 0 => Int.le_refl _
  | j + 1 => by
    have h1 := chn_less h j
    have h2 := ch_nonneg (chn_nonneg (k := k + j) h).1
    show ch (chn (k + j) x) ≤ _
    omega
theorem chn_le {j : Nat} (h : 0 ≤ x) (hj : k ≤ j) : chn j x ≤ chn k x := by
  obtain ⟨i, rfl⟩ := Nat.exists_eq_add_of_le hj
  exact chn_less h i
theorem chn_ten (h : 0 ≤ x) (h2 : x ≤ 1000) : chn 10 x ≤ 1 := by
  have e : chn 10 x = ch (ch (ch (ch (ch (ch (ch (ch (ch (ch x))))))))) := rfl
  rw [e]
  have a1 := ch_mono h2
  have a2 := ch_mono a1
  have a3 := ch_mono a2
  have a4 := ch_mono a3
  have a5 := ch_mono a4
  have a6 := ch_mono a5
  have a7 := ch_mono a6
  have a8 := ch_mono a7
  have a9 := ch_mono a8
  have a10 := ch_mono a9
  exact Int.le_trans a10 (by decide)
theorem far (h : x ≤ y) : F room l k y - F room l k x ≤ chn (H room l k) (y - x) := by
  induction k with
  | zero => exact Int.le_refl _
  | succ k ih =>
    by_cases ho : room < (rates room l k).sum
    · rw [H_over ho]
      have h2 := ch_mono ih
      have e : ∀ z, F room l (k + 1) z = F room l k z / 2 := fun z => if_pos ho
      rw [e, e]
      refine Int.le_trans ?_ h2
      unfold ch
      omega
    · rw [H_under ho]
      have e : ∀ z, F room l (k + 1) z = F room l k z + 1 := fun z => if_neg ho
      rw [e, e]
      omega
/-- The two things that the law asks of the distance. -/
theorem near (h : x ≤ y) (h0 : 0 ≤ x) (h1 : y ≤ 1000) : F room l k y - F room l k x ≤ chn (min (H room l k) 20) (y - x) ∧ (10 ≤ H room l k → F room l k y - F room l k x ≤ 1) := by
  have hf := far (room := room) (l := l) (k := k) h
  refine ⟨Int.le_trans hf (chn_le (by omega) (Nat.min_le_left _ _)), fun ht => Int.le_trans hf (Int.le_trans (chn_le (by omega) ht) (chn_ten (by omega) (by omega)))⟩

/-- Sums. -/
theorem sum_bound {B : Int} : ∀ {l : List Int}, (∀ x ∈ l, 0 ≤ x ∧ x ≤ B) → 0 ≤ l.sum ∧ l.sum ≤ B * l.length
  | [], _ => by simp
  | x :: l, h => by
    have h1 := sum_bound (fun y hy => h y (List.mem_cons_of_mem _ hy))
    have h2 := h x List.mem_cons_self
    rw [List.sum_cons, List.length_cons]
    have e : B * ((l.length + 1 : Nat) : Int) = B * (l.length : Int) + B := by rw [Int.natCast_add, Int.mul_add]; simp
    omega
theorem sum_more : ∀ (l : List Int), (l.map (· + 1)).sum = l.sum + l.length
  | [] => rfl
  | x :: l => by
    have h := sum_more l
    rw [List.map_cons, List.sum_cons, List.sum_cons, List.length_cons, h]
    omega
theorem sum_half : ∀ {l : List Int}, (∀ x ∈ l, 0 ≤ x) → (l.map (· / 2)).sum ≤ l.sum
  | [], _ => by simp
  | x :: l, h => by
    have h1 := sum_half (fun y hy => h y (List.mem_cons_of_mem _ hy))
    have h2 := h x List.mem_cons_self
    rw [List.map_cons, List.sum_cons, List.sum_cons]
    omega
theorem rates_in (h : ∀ x ∈ l, 0 ≤ x ∧ x ≤ 1000) : ∀ x ∈ rates room l k, 0 ≤ x ∧ x ≤ 1000 + k := by
  intro x hx
  obtain ⟨y, hy, rfl⟩ := List.mem_map.1 hx
  have h1 := h y hy
  have h2 := F_bound (room := room) (l := l) (k := k) h1.1
  omega
theorem stay (h : ∀ x ∈ l, 0 ≤ x ∧ x ≤ 1000) : (rates room l k).sum ≤ max l.sum (room + l.length) := by
  induction k with
  | zero => rw [rates_zero]; omega
  | succ k ih =>
    by_cases ho : room < (rates room l k).sum
    · rw [rates_over ho]
      exact Int.le_trans (sum_half fun x hx => (rates_in h x hx).1) ih
    · rw [rates_under ho, sum_more, rates_len]
      omega
theorem take_sum (l : List Int) (k : Nat) (hk : k < l.length) : (l.take (k + 1)).sum = (l.take k).sum + l[k]?.getD 0 := by
  rw [List.take_add_one, List.getElem?_eq_getElem hk, List.sum_append]
  simp
theorem map_upto (f : Int → Int) (l : List Int) (k : Nat) (hk : k < l.length) : ((l.take k).map f ++ l.drop k).set k (f (l[k]?.getD 0)) = (l.take (k + 1)).map f ++ l.drop (k + 1) := by
  have e : ((l.take k).map f).length = k := by rw [List.length_map, List.length_take]; omega
  rw [List.set_append_right _ _ (by omega), e, Nat.sub_self, List.drop_eq_getElem_cons hk, List.set_cons_zero, List.take_add_one, List.getElem?_eq_getElem hk, List.map_append, List.append_assoc]
  rfl
theorem upto_get (f : Int → Int) (l : List Int) (k : Nat) : ((l.take k).map f ++ l.drop k)[k]?.getD 0 = l[k]?.getD 0 := by
  rcases Nat.lt_or_ge k l.length with hk | hk
  · have e : ((l.take k).map f).length = k := by rw [List.length_map, List.length_take]; omega
    rw [List.getElem?_append_right (by omega), e, Nat.sub_self, List.getElem?_drop, Nat.add_zero]
  · rw [List.getElem?_eq_none (by rw [List.length_append, List.length_map, List.length_take, List.length_drop]; omega), List.getElem?_eq_none hk]
theorem upto_len (f : Int → Int) (l : List Int) (k : Nat) : ((l.take k).map f ++ l.drop k).length = l.length := by
  rw [List.length_append, List.length_map, List.length_take, List.length_drop]; omega

/-- The largest and the smallest. -/
def hi : List Int → Int
  | [] => 0
  | x :: l => l.foldl max x
def lo : List Int → Int
  | [] => 0
  | x :: l => l.foldl min x
theorem hi_take (l : List Int) (k : Nat) (h0 : 0 < k) (hk : k < l.length) : hi (l.take (k + 1)) = max (hi (l.take k)) (l[k]?.getD 0) := by
  rw [List.take_add_one, List.getElem?_eq_getElem hk]
  obtain ⟨x, m, e⟩ : ∃ x m, l.take k = x :: m := by
    cases hl : l.take k with
    | nil =>
      have := congrArg List.length hl
      rw [List.length_take, List.length_nil] at this
      omega
    | cons x m => exact ⟨x, m, rfl⟩
  rw [e]
  show List.foldl max x (m ++ [l[k]]) = _
  rw [List.foldl_append]; rfl
theorem lo_take (l : List Int) (k : Nat) (h0 : 0 < k) (hk : k < l.length) : lo (l.take (k + 1)) = min (lo (l.take k)) (l[k]?.getD 0) := by
  rw [List.take_add_one, List.getElem?_eq_getElem hk]
  obtain ⟨x, m, e⟩ : ∃ x m, l.take k = x :: m := by
    cases hl : l.take k with
    | nil =>
      have := congrArg List.length hl
      rw [List.length_take, List.length_nil] at this
      omega
    | cons x m => exact ⟨x, m, rfl⟩
  rw [e]
  show List.foldl min x (m ++ [l[k]]) = _
  rw [List.foldl_append]; rfl
theorem one_take (l : List Int) (h : 0 < l.length) : l.take 1 = [l[0]?.getD 0] := by
  cases l with
  | nil => simp at h
  | cons x l => rfl
theorem hi_is : ∀ (m : List Int) (x : Int), (m.foldl max x = x ∨ m.foldl max x ∈ m) ∧ x ≤ m.foldl max x ∧ ∀ y ∈ m, y ≤ m.foldl max x
  | [], x => ⟨.inl rfl, Int.le_refl _, by simp⟩
  | z :: m, x => by
    obtain ⟨h1, h2, h3⟩ := hi_is m (max x z)
    show ((m.foldl max (max x z) = x ∨ m.foldl max (max x z) ∈ z :: m) ∧ x ≤ m.foldl max (max x z) ∧ ∀ y ∈ z :: m, y ≤ m.foldl max (max x z))
    refine ⟨?_, by omega, fun y hy => ?_⟩
    · rcases h1 with h1 | h1
      · rw [h1]
        rcases Int.le_total x z with h | h
        · right; rw [Int.max_eq_right h]; exact List.mem_cons_self
        · left; exact Int.max_eq_left h
      · exact .inr (List.mem_cons_of_mem _ h1)
    · rcases List.mem_cons.1 hy with rfl | hy
      · omega
      · exact h3 y hy
theorem lo_is : ∀ (m : List Int) (x : Int), (m.foldl min x = x ∨ m.foldl min x ∈ m) ∧ m.foldl min x ≤ x ∧ ∀ y ∈ m, m.foldl min x ≤ y
  | [], x => ⟨.inl rfl, Int.le_refl _, by simp⟩
  | z :: m, x => by
    obtain ⟨h1, h2, h3⟩ := lo_is m (min x z)
    show ((m.foldl min (min x z) = x ∨ m.foldl min (min x z) ∈ z :: m) ∧ m.foldl min (min x z) ≤ x ∧ ∀ y ∈ z :: m, m.foldl min (min x z) ≤ y)
    refine ⟨?_, by omega, fun y hy => ?_⟩
    · rcases h1 with h1 | h1
      · rw [h1]
        rcases Int.le_total x z with h | h
        · left; exact Int.min_eq_left h
        · right; rw [Int.min_eq_right h]; exact List.mem_cons_self
      · exact .inr (List.mem_cons_of_mem _ h1)
    · rcases List.mem_cons.1 hy with rfl | hy
      · omega
      · exact h3 y hy
theorem hi_mem (h : 0 < l.length) : hi l ∈ l := by
  cases l with
  | nil => simp at h
  | cons x m =>
    rcases (hi_is m x).1 with h | h
    · show m.foldl max x ∈ _; rw [h]; exact List.mem_cons_self
    · exact List.mem_cons_of_mem _ h
theorem hi_ge (h : x ∈ l) : x ≤ hi l := by
  cases l with
  | nil => simp at h
  | cons z m =>
    rcases List.mem_cons.1 h with rfl | h
    · exact (hi_is m x).2.1
    · exact (hi_is m z).2.2 x h
theorem lo_mem (h : 0 < l.length) : lo l ∈ l := by
  cases l with
  | nil => simp at h
  | cons x m =>
    rcases (lo_is m x).1 with h | h
    · show m.foldl min x ∈ _; rw [h]; exact List.mem_cons_self
    · exact List.mem_cons_of_mem _ h
theorem lo_le (h : x ∈ l) : lo l ≤ x := by
  cases l with
  | nil => simp at h
  | cons z m =>
    rcases List.mem_cons.1 h with rfl | h
    · exact (lo_is m x).2.1
    · exact (lo_is m z).2.2 x h
theorem hi_only (h : x ∈ l) (h2 : ∀ y ∈ l, y ≤ x) : x = hi l := by
  have h3 := hi_ge h
  have h4 := h2 _ (hi_mem (List.length_pos_of_mem h))
  omega
theorem lo_only (h : x ∈ l) (h2 : ∀ y ∈ l, x ≤ y) : x = lo l := by
  have h3 := lo_le h
  have h4 := h2 _ (lo_mem (List.length_pos_of_mem h))
  omega
theorem hi_map {f : Int → Int} (hf : ∀ x y, x ≤ y → f x ≤ f y) (h : 0 < l.length) : hi (l.map f) = f (hi l) :=
  (hi_only (List.mem_map_of_mem (hi_mem h)) fun y hy => by
    obtain ⟨z, hz, rfl⟩ := List.mem_map.1 hy
    exact hf _ _ (hi_ge hz)).symm
theorem lo_map {f : Int → Int} (hf : ∀ x y, x ≤ y → f x ≤ f y) (h : 0 < l.length) : lo (l.map f) = f (lo l) :=
  (lo_only (List.mem_map_of_mem (lo_mem h)) fun y hy => by
    obtain ⟨z, hz, rfl⟩ := List.mem_map.1 hy
    exact hf _ _ (lo_le hz)).symm
theorem lo_hi (h : 0 < l.length) : lo l ≤ hi l := lo_le (hi_mem h)

/-- A rate that may be. -/
def fit (x : Int) : Bool := decide (0 ≤ x) && decide (x ≤ 1000)
def fits (l : List Int) : Bool := l.all fit
theorem fits_all (h : fits l = true) : ∀ x ∈ l, 0 ≤ x ∧ x ≤ 1000 := fun x hx => by
  have := List.all_eq_true.1 h x hx
  unfold fit at this
  rw [Bool.and_eq_true] at this
  exact ⟨of_decide_eq_true this.1, of_decide_eq_true this.2⟩
theorem fits_of (h : ∀ k : Nat, k < l.length → fit (l[k]?.getD 0) = true) : fits l = true := by
  refine List.all_eq_true.2 fun x hx => ?_
  obtain ⟨k, hk, rfl⟩ := List.getElem_of_mem hx
  have := h k hk
  rwa [List.getElem?_eq_getElem hk] at this
theorem fits_false (hk : k < l.length) (h : fit (l[k]?.getD 0) = false) : fits l = false := by
  cases hb : fits l with
  | false => rfl
  | true =>
    have := List.all_eq_true.1 hb _ (List.getElem_mem hk)
    rw [List.getElem?_eq_getElem hk] at h
    rw [show (some l[k]).getD 0 = l[k] from rfl] at h
    rw [this] at h
    cases h
/-- What is wrong with some flows; with a run. -/
def bad (l : List Int) (room : Int) : Int := if l.length = 0 then 5 else if 5 < l.length then 4 else if fits l = true ∧ 1 ≤ room ∧ room ≤ 1000 then 0 else 1
def badR (l : List Int) (room s : Int) : Int := if bad l room = 0 then (if 0 ≤ s ∧ s ≤ 1000 then 0 else 1) else bad l room
theorem bad_zero : bad l room = 0 ↔ 1 ≤ l.length ∧ l.length ≤ 5 ∧ fits l = true ∧ 1 ≤ room ∧ room ≤ 1000 := by
  unfold bad
  by_cases h0 : l.length = 0
  · rw [if_pos h0]; exact ⟨fun h => by omega, fun h => by omega⟩
  · rw [if_neg h0]
    by_cases h1 : 5 < l.length
    · rw [if_pos h1]; exact ⟨fun h => by omega, fun h => by omega⟩
    · rw [if_neg h1]
      by_cases h2 : fits l = true ∧ 1 ≤ room ∧ room ≤ 1000
      · rw [if_pos h2]; exact ⟨fun _ => ⟨by omega, by omega, h2⟩, fun _ => rfl⟩
      · rw [if_neg h2]; exact ⟨fun h => by omega, fun h => absurd h.2.2 h2⟩
theorem badR_zero {s : Int} : badR l room s = 0 ↔ bad l room = 0 ∧ 0 ≤ s ∧ s ≤ 1000 := by
  unfold badR
  by_cases h0 : bad l room = 0
  · rw [if_pos h0]
    by_cases h1 : 0 ≤ s ∧ s ≤ 1000
    · rw [if_pos h1]; exact ⟨fun _ => ⟨h0, h1⟩, fun _ => rfl⟩
    · rw [if_neg h1]; exact ⟨fun h => by omega, fun h => absurd h.2 h1⟩
  · rw [if_neg h0]; exact ⟨fun h => absurd h h0, fun h => absurd h.1 h0⟩
end Go.Proofs.YtlojehakifagbaaDoor.AimdMath
