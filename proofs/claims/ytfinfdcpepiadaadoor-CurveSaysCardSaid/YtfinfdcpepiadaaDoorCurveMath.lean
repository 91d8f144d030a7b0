/- Curves as lists of numbers: what is wrong with one and with two, their fold, the most that waits, the first time at which as much is served, the longest wait, whether one fits another. No statement is proved here. -/
import Derived.Test.YtfinfdcpepiadaaDoorKit
namespace Go.Proofs.YtfinfdcpepiadaaDoor.Curve
set_option linter.unusedVariables false

/-- How much by a time. -/
def am (l : List Int) (k : Nat) : Int := l[k]?.getD 0
def fit1 (x : Int) : Bool := decide (0 ≤ x) && decide (x ≤ 1000)
def fits (l : List Int) : Bool := l.all fit1
def up (l : List Int) : Bool := (List.range (l.length - 1)).all fun k => decide (am l k ≤ am l (k + 1))
/-- What is wrong with a curve. -/
def one (l : List Int) : Int := if l.length = 0 then 5 else if 16 < l.length then 4 else if fits l = false then 1 else if up l = false then 3 else 0
/-- What is wrong with two. -/
def two (f g : List Int) : Int := if one f ≠ 0 then one f else if one g ≠ 0 then one g else if f.length ≠ g.length then 3 else 0
/-- A curve with which nothing is wrong. -/
structure Good (l : List Int) : Prop where
  pos : 0 < l.length
  len : l.length ≤ 16
  num : ∀ k, 0 ≤ am l k ∧ am l k ≤ 1000
  up : ∀ j k, j ≤ k → k < l.length → am l j ≤ am l k
variable {f g h l : List Int} {t k : Nat} {m x : Int}
theorem am_get (hk : k < l.length) : l[k]? = some (am l k) := by unfold am; rw [List.getElem?_eq_getElem hk]; rfl
theorem am_mem (hk : k < l.length) : am l k ∈ l := List.mem_of_getElem? (am_get hk)
theorem am_out (hk : l.length ≤ k) : am l k = 0 := by unfold am; rw [List.getElem?_eq_none hk]; rfl
theorem fit1_iff : fit1 x = true ↔ 0 ≤ x ∧ x ≤ 1000 := by simp [fit1]
theorem fit1_not : fit1 x = false ↔ ¬ (0 ≤ x ∧ x ≤ 1000) := by rw [← Bool.not_eq_true, fit1_iff]
theorem fits_iff : fits l = true ↔ ∀ k, k < l.length → 0 ≤ am l k ∧ am l k ≤ 1000 := by
  unfold fits
  rw [List.all_eq_true]
  refine ⟨fun H k hk => fit1_iff.1 (H _ (am_mem hk)), fun H x hx => ?_⟩
  obtain ⟨k, hk, rfl⟩ := List.getElem_of_mem hx
  have := H k hk
  unfold am at this
  rw [List.getElem?_eq_getElem hk] at this
  exact fit1_iff.2 this
theorem fits_of (H : ∀ k, k < l.length → fit1 (am l k) = true) : fits l = true := fits_iff.2 fun k hk => fit1_iff.1 (H k hk)
theorem fits_false (hk : k < l.length) (H : fit1 (am l k) = false) : fits l = false := by
  rw [← Bool.not_eq_true, fits_iff]
  exact fun h => fit1_not.1 H (h k hk)
theorem up_iff : up l = true ↔ ∀ k, k + 1 < l.length → am l k ≤ am l (k + 1) := by
  unfold up
  rw [List.all_eq_true]
  exact ⟨fun H k hk => of_decide_eq_true (H k (List.mem_range.2 (by omega))), fun H k hk => decide_eq_true (H k (by have := List.mem_range.1 hk; omega))⟩
theorem up_false (hk : k + 1 < l.length) (H : am l (k + 1) < am l k) : up l = false := by
  rw [← Bool.not_eq_true, up_iff]
  exact fun h => by have := h k hk; omega
theorem up_all (H : ∀ k, k + 1 < l.length → am l k ≤ am l (k + 1)) : ∀ j k, j ≤ k → k < l.length → am l j ≤ am l k := fun j k hjk hk => by
  induction k with
  | zero => obtain rfl : j = 0 := by omega
            exact Int.le_refl _
  | succ k ih =>
    by_cases e : j = k + 1
    · rw [e]; exact Int.le_refl _
    · exact Int.le_trans (ih (by omega) (by omega)) (H k hk)
theorem one_zero : one l = 0 ↔ Good l := by
  unfold one
  constructor
  · intro H
    split at H
    · cases H
    split at H
    · cases H
    split at H
    · cases H
    split at H
    · cases H
    rename_i h1 h2 h3 h4
    rw [Bool.not_eq_false] at h3 h4
    refine ⟨by omega, by omega, fun k => ?_, up_all (up_iff.1 h4)⟩
    rcases Nat.lt_or_ge k l.length with hk | hk
    · exact fits_iff.1 h3 k hk
    · rw [am_out hk]; omega
  · rintro ⟨h1, h2, h3, h4⟩
    rw [if_neg (by omega), if_neg (by omega), if_neg (by rw [fits_iff.2 fun k _ => h3 k]; decide), if_neg (by rw [up_iff.2 fun k hk => h4 k (k + 1) (by omega) hk]; decide)]
theorem two_zero : two f g = 0 ↔ Good f ∧ Good g ∧ f.length = g.length := by
  unfold two
  rw [← one_zero, ← one_zero]
  constructor
  · intro H
    split at H
    · rename_i h1; exact absurd H h1
    split at H
    · rename_i h1 h2; exact absurd H h2
    split at H
    · cases H
    rename_i h1 h2 h3
    exact ⟨Decidable.not_not.1 h1, Decidable.not_not.1 h2, Decidable.not_not.1 h3⟩
  · rintro ⟨h1, h2, h3⟩
    rw [if_neg (fun h => h h1), if_neg (fun h => h h2), if_neg (fun h => h h3)]
theorem one_cases (l : List Int) : one l = 0 ∨ one l = 1 ∨ one l = 3 ∨ one l = 4 ∨ one l = 5 := by
  unfold one
  repeat' split
  all_goals simp
theorem two_cases (f g : List Int) : two f g = 0 ∨ two f g = 1 ∨ two f g = 3 ∨ two f g = 4 ∨ two f g = 5 := by
  unfold two
  split
  · exact one_cases f
  split
  · exact one_cases g
  split <;> simp
theorem good_of (h1 : 0 < l.length) (h2 : l.length ≤ 16) (h3 : ∀ k, k < l.length → 0 ≤ am l k ∧ am l k ≤ 1000) (h4 : ∀ k, k + 1 < l.length → am l k ≤ am l (k + 1)) : Good l :=
  ⟨h1, h2, fun k => by
    rcases Nat.lt_or_ge k l.length with hk | hk
    · exact h3 k hk
    · rw [am_out hk]; omega, up_all h4⟩

/-- The least of a curve up to a time and another for the rest, as far as it was looked for. -/
def Part (f g : List Int) (t k : Nat) (m : Int) : Prop := (∃ s, s ≤ t ∧ m = am f s + am g (t - s)) ∧ ∀ s, s < k → m ≤ am f s + am g (t - s)
theorem part_first (f g : List Int) (t : Nat) : Part f g t 1 (am f 0 + am g t) := ⟨⟨0, Nat.zero_le _, rfl⟩, fun s hs => by
  obtain rfl : s = 0 := by omega
  exact Int.le_refl _⟩
theorem part_step (H : Part f g t k m) (hk : k ≤ t) (m' : Int) (hm : (if am f k + am g (t - k) < m then am f k + am g (t - k) else m) = m') : Part f g t (k + 1) m' := by
  obtain ⟨⟨s, hs, hms⟩, H2⟩ := H
  subst hm
  split
  · rename_i h1
    refine ⟨⟨k, hk, rfl⟩, fun j hj => ?_⟩
    by_cases e : j = k
    · rw [e]; exact Int.le_refl _
    · have := H2 j (by omega); omega
  · rename_i h1
    refine ⟨⟨s, hs, hms⟩, fun j hj => ?_⟩
    by_cases e : j = k
    · rw [e]; omega
    · exact H2 j (by omega)
def lowTo (f g : List Int) (t : Nat) : Nat → Int
  | 0 => am f 0 + am g t
  | s + 1 => if am f (s + 1) + am g (t - (s + 1)) < lowTo f g t s then am f (s + 1) + am g (t - (s + 1)) else lowTo f g t s
def low (f g : List Int) (t : Nat) : Int := lowTo f g t t
theorem lowTo_part (s : Nat) (hs : s ≤ t) : Part f g t (s + 1) (lowTo f g t s) := by
  induction s with
  | zero => exact part_first f g t
  | succ s ih => exact part_step (ih (by omega)) hs _ rfl
theorem low_part (f g : List Int) (t : Nat) : Part f g t (t + 1) (low f g t) := lowTo_part t (Nat.le_refl _)
theorem part_low (H : Part f g t (t + 1) m) : m = low f g t := by
  obtain ⟨⟨s, hs, h1⟩, h2⟩ := H
  obtain ⟨⟨s', hs', h1'⟩, h2'⟩ := low_part f g t
  have := h2 s' (by omega)
  have := h2' s (by omega)
  omega
theorem part_num (hf : Good f) (hg : Good g) (H : Part f g t k m) : 0 ≤ m ∧ m ≤ 2000 := by
  obtain ⟨⟨s, hs, rfl⟩, _⟩ := H
  have := hf.num s
  have := hg.num (t - s)
  omega
theorem low_le {s : Nat} (hs : s ≤ t) : low f g t ≤ am f s + am g (t - s) := (low_part f g t).2 s (by omega)
theorem low_num (hf : Good f) (hg : Good g) (t : Nat) : 0 ≤ low f g t ∧ low f g t ≤ 2000 := part_num hf hg (low_part f g t)
theorem low_comm (f g : List Int) (t : Nat) : low f g t = low g f t := by
  refine part_low ⟨?_, fun s hs => ?_⟩
  · obtain ⟨⟨s, hs, h1⟩, _⟩ := low_part f g t
    exact ⟨t - s, by omega, by rw [h1, show t - (t - s) = s by omega]; omega⟩
  · have := low_le (f := f) (g := g) (t := t) (s := t - s) (by omega)
    rw [show t - (t - s) = s by omega] at this
    omega
theorem low_up (hf : Good f) (hg : Good g) (hn : f.length = g.length) (ht : t + 1 < f.length) : low f g t ≤ low f g (t + 1) := by
  obtain ⟨⟨s, hs, h1⟩, _⟩ := low_part f g (t + 1)
  rw [h1]
  by_cases e : s = t + 1
  · subst e
    have h2 := low_le (f := f) (g := g) (t := t) (s := t) (Nat.le_refl _)
    have h3 := hf.up t (t + 1) (by omega) ht
    rw [show t - t = 0 by omega] at h2
    rw [show t + 1 - (t + 1) = 0 by omega]
    omega
  · have h2 := low_le (f := f) (g := g) (t := t) (s := s) (by omega)
    have h3 := hg.up (t - s) (t + 1 - s) (by omega) (by omega)
    omega
/-- The fold up to a time. -/
def foldTo (f g : List Int) (k : Nat) : List Int := (List.range k).map (low f g)
def fold (f g : List Int) : List Int := foldTo f g f.length
theorem foldTo_len : (foldTo f g k).length = k := by simp [foldTo]
theorem foldTo_succ : foldTo f g (k + 1) = foldTo f g k ++ [low f g k] := by simp [foldTo, List.range_succ]
theorem foldTo_am (ht : t < k) : am (foldTo f g k) t = low f g t := by unfold am foldTo; simp [ht]
theorem fold_len : (fold f g).length = f.length := foldTo_len
theorem fold_am (ht : t < f.length) : am (fold f g) t = low f g t := foldTo_am ht
theorem fold_comm (hn : f.length = g.length) : fold f g = fold g f := by
  unfold fold foldTo
  rw [hn]
  exact List.map_congr_left fun t _ => low_comm f g t
theorem fold_up (hf : Good f) (hg : Good g) (hn : f.length = g.length) (ht : t + 1 < f.length) : am (fold f g) t ≤ am (fold f g) (t + 1) := by
  rw [fold_am (by omega), fold_am ht]
  exact low_up hf hg hn ht
theorem fold_assoc (h1 : f.length = g.length) (h2 : g.length = h.length) : fold (fold f g) h = fold f (fold g h) := by
  show foldTo (fold f g) h (fold f g).length = foldTo f (fold g h) f.length
  rw [fold_len]
  unfold foldTo
  refine List.map_congr_left fun t ht => ?_
  have ht := List.mem_range.1 ht
  refine part_low ⟨?_, fun s hs => ?_⟩
  · obtain ⟨⟨s, hs, e1⟩, _⟩ := low_part (fold f g) h t
    rw [fold_am (by omega)] at e1
    obtain ⟨⟨r, hr, e2⟩, _⟩ := low_part f g s
    refine ⟨r, by omega, ?_⟩
    rw [fold_am (by omega)]
    have h3 := low_le (f := g) (g := h) (t := t - r) (s := s - r) (by omega)
    rw [show t - r - (s - r) = t - s by omega] at h3
    obtain ⟨⟨q, hq, e3⟩, _⟩ := low_part g h (t - r)
    have h4 := low_le (f := fold f g) (g := h) (t := t) (s := r + q) (by omega)
    rw [fold_am (by omega)] at h4
    have h5 := low_le (f := f) (g := g) (t := r + q) (s := r) (by omega)
    rw [show r + q - r = q by omega] at h5
    rw [show t - (r + q) = t - r - q by omega] at h4
    omega
  · rw [fold_am (by omega)]
    obtain ⟨⟨q, hq, e3⟩, _⟩ := low_part g h (t - s)
    have h4 := low_le (f := fold f g) (g := h) (t := t) (s := s + q) (by omega)
    rw [fold_am (by omega)] at h4
    have h5 := low_le (f := f) (g := g) (t := s + q) (s := s) (by omega)
    rw [show s + q - s = q by omega] at h5
    rw [show t - (s + q) = t - s - q by omega] at h4
    omega

/-- How much waits at most, up to a time. -/
def backTo (f g : List Int) : Nat → Int
  | 0 => 0
  | k + 1 => if backTo f g k < am f k - am g k then am f k - am g k else backTo f g k
theorem back_num (hf : Good f) (hg : Good g) : 0 ≤ backTo f g k ∧ backTo f g k ≤ 1000 := by
  induction k with
  | zero => exact ⟨Int.le_refl _, by show (0 : Int) ≤ 1000; omega⟩
  | succ k ih =>
    have := hf.num k
    have := hg.num k
    unfold backTo
    split <;> omega
theorem back_le {j : Nat} (hj : j < k) : am f j - am g j ≤ backTo f g k := by
  induction k with
  | zero => omega
  | succ k ih =>
    unfold backTo
    by_cases e : j = k
    · subst e; split <;> omega
    · have := ih (by omega)
      split <;> omega
theorem back_at : backTo f g k = 0 ∨ ∃ j, j < k ∧ backTo f g k = am f j - am g j := by
  induction k with
  | zero => exact .inl rfl
  | succ k ih =>
    unfold backTo
    split
    · exact .inr ⟨k, by omega, rfl⟩
    · rcases ih with h1 | ⟨j, h1, h2⟩
      · exact .inl h1
      · exact .inr ⟨j, by omega, h2⟩
theorem back_zero : 0 ≤ backTo f g k := by
  induction k with
  | zero => exact Int.le_refl _
  | succ k ih =>
    unfold backTo
    split <;> omega

/-- The first time at which so much is served. -/
def first (g : List Int) (x : Int) : Nat := g.findIdx fun y => decide (x ≤ y)
theorem first_le : first g x ≤ g.length := List.findIdx_le_length
theorem first_below {j : Nat} (hj : j < first g x) : am g j < x := by
  have h1 : j < g.length := Nat.lt_of_lt_of_le hj first_le
  have h2 := List.not_of_lt_findIdx hj
  have h3 : am g j = g[j] := by unfold am; rw [List.getElem?_eq_getElem h1]; rfl
  rw [h3]
  have := of_decide_eq_false (by simpa using h2 : decide (x ≤ g[j]) = false)
  omega
theorem first_at (H : first g x < g.length) : x ≤ am g (first g x) := by
  have h2 : decide (x ≤ g[first g x]) = true := List.findIdx_getElem (p := fun y => decide (x ≤ y)) (xs := g) (w := H)
  have h3 : am g (first g x) = g[first g x] := by unfold am; rw [List.getElem?_eq_getElem H]; rfl
  rw [h3]
  exact of_decide_eq_true h2
theorem first_is {u : Nat} (h1 : u ≤ g.length) (h2 : ∀ j, j < u → am g j < x) (h3 : u < g.length → x ≤ am g u) : first g x = u := by
  rcases Nat.lt_trichotomy (first g x) u with h4 | h4 | h4
  · have h5 := h2 _ h4
    have h6 := first_at (g := g) (x := x) (by omega)
    omega
  · exact h4
  · have h5 := first_below h4
    have h6 := h3 (Nat.lt_of_lt_of_le h4 first_le)
    omega
/-- How long what came waits at most, up to a time. -/
def waitTo (f g : List Int) : Nat → Int
  | 0 => 0
  | k + 1 => if waitTo f g k < (first g (am f k) : Int) - k then (first g (am f k) : Int) - k else waitTo f g k
theorem wait_num : 0 ≤ waitTo f g k ∧ waitTo f g k ≤ g.length := by
  induction k with
  | zero => exact ⟨Int.le_refl _, by show (0 : Int) ≤ _; omega⟩
  | succ k ih =>
    have := first_le (g := g) (x := am f k)
    unfold waitTo
    split <;> omega
theorem wait_le {j : Nat} (hj : j < k) : (first g (am f j) : Int) - j ≤ waitTo f g k := by
  induction k with
  | zero => omega
  | succ k ih =>
    unfold waitTo
    by_cases e : j = k
    · subst e; split <;> omega
    · have := ih (by omega)
      split <;> omega
/-- Something is never served. -/
def late (f g : List Int) (k : Nat) : Bool := (List.range k).any fun t => decide (first g (am f t) = g.length)
theorem late_iff : late f g k = true ↔ ∃ t, t < k ∧ first g (am f t) = g.length := by
  unfold late
  rw [List.any_eq_true]
  exact ⟨fun ⟨t, h1, h2⟩ => ⟨t, List.mem_range.1 h1, of_decide_eq_true h2⟩, fun ⟨t, h1, h2⟩ => ⟨t, List.mem_range.2 h1, decide_eq_true h2⟩⟩
theorem late_not : late f g k = false ↔ ∀ t, t < k → first g (am f t) < g.length := by
  rw [← Bool.not_eq_true, late_iff]
  exact ⟨fun h t ht => Nat.lt_of_le_of_ne first_le (fun e => h ⟨t, ht, e⟩), fun h ⟨t, ht, e⟩ => by have := h t ht; omega⟩
/-- What is wrong with the wait. -/
def lates (f g : List Int) : Int := if two f g ≠ 0 then two f g else if late f g f.length = true then 5 else 0

/-- In no time more came than the curve has for so long a time. -/
def under (f g : List Int) : Bool := (List.range f.length).all fun t => (List.range (t + 1)).all fun s => decide (am f t - am f s ≤ am g (t - s))
theorem under_iff : under f g = true ↔ ∀ t, t < f.length → ∀ s, s ≤ t → am f t - am f s ≤ am g (t - s) := by
  unfold under
  rw [List.all_eq_true]
  refine ⟨fun H t ht s hs => ?_, fun H t ht => ?_⟩
  · have := List.all_eq_true.1 (H t (List.mem_range.2 ht)) s (List.mem_range.2 (by omega))
    exact of_decide_eq_true this
  · rw [List.all_eq_true]
    exact fun s hs => decide_eq_true (H t (List.mem_range.1 ht) s (by have := List.mem_range.1 hs; omega))
theorem under_false {s : Nat} (ht : t < f.length) (hs : s ≤ t) (H : am g (t - s) < am f t - am f s) : under f g = false := by
  rw [← Bool.not_eq_true, under_iff]
  exact fun h => by have := h t ht s hs; omega
end Go.Proofs.YtfinfdcpepiadaaDoor.Curve
