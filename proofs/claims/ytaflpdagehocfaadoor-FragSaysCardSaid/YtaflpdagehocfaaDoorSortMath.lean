/- The mathematics of a stable merge by rotations. No statement is proved here. -/
import Derived.Test.YtaflpdagehocfaaDoorOrderMath
import Derived.Sort.LotA
namespace Go.Proofs.YtaflpdagehocfaaDoor.Srt
open Go.Proofs.YtaflpdagehocfaaDoor.Part
open Go.Sort (swp PermIn permIn_refl permIn_trans permIn_all swp_permIn permIn_mono swp_get swp_size)
set_option linter.unusedVariables false

instance instPrt : Inhabited Prt := ⟨⟨0, false, .empty⟩⟩
/-- A fragment, and the place from which it comes. -/
abbrev Tg := Prt × Nat
instance instTg : Inhabited Tg := ⟨(⟨0, false, .empty⟩, 0)⟩

/-- Two stretches exchanged; a stretch and the one behind it exchanged. -/
def sw (a b n : Nat) (f : Nat → Tg) : Nat → Tg := fun k => if a ≤ k ∧ k < a + n then f (k - a + b) else if b ≤ k ∧ k < b + n then f (k - b + a) else f k
def rt (a m b : Nat) (f : Nat → Tg) : Nat → Tg := fun k => if a ≤ k ∧ k < a + (b - m) then f (k - a + m) else if a + (b - m) ≤ k ∧ k < b then f (k - (b - m)) else f k
def fn (d : Array Tg) : Nat → Tg := fun k => d[k]!

theorem sw_zero (a b : Nat) (f : Nat → Tg) : sw a b 0 f = f := by
  funext k; unfold sw; rw [if_neg (by omega), if_neg (by omega)]
theorem fn_swp (d : Array Tg) (i j : Nat) (hi : i < d.size) (hj : j < d.size) : fn (swp d i j) = fun k => if k = j then fn d i else if k = i then fn d j else fn d k := by
  funext k; unfold fn; exact swp_get d hi hj k
theorem sw_succ (a b n : Nat) (f : Nat → Tg) (h : a + (n + 1) ≤ b) : (fun k => if k = b + n then sw a b n f (a + n) else if k = a + n then sw a b n f (b + n) else sw a b n f k) = sw a b (n + 1) f := by
  funext k
  unfold sw
  rw [if_neg (show ¬ (a ≤ a + n ∧ a + n < a + n) by omega), if_neg (show ¬ (b ≤ a + n ∧ a + n < b + n) by omega), if_neg (show ¬ (a ≤ b + n ∧ b + n < a + n) by omega), if_neg (show ¬ (b ≤ b + n ∧ b + n < b + n) by omega)]
  by_cases h1 : k = b + n
  · subst h1
    rw [if_pos rfl, if_neg (by omega), if_pos (by omega)]
    congr 1; omega
  · rw [if_neg h1]
    by_cases h2 : k = a + n
    · subst h2
      rw [if_pos rfl, if_pos (by omega)]
      congr 1; omega
    · rw [if_neg h2]
      by_cases h3 : a ≤ k ∧ k < a + n
      · rw [if_pos h3, if_pos (by omega)]
      · rw [if_neg h3, if_neg (show ¬ (a ≤ k ∧ k < a + (n + 1)) by omega)]
        by_cases h4 : b ≤ k ∧ k < b + n
        · rw [if_pos h4, if_pos (by omega)]
        · rw [if_neg h4, if_neg (by omega)]
theorem rt_gt (m i j : Nat) (f : Nat → Tg) (him : i ≤ m) (h : j < i) : rt (m - i) m (m + j) f = rt (m - (i - j)) m (m + j) (sw (m - i) m j f) := by
  funext k
  unfold rt sw
  by_cases h1 : m - i ≤ k ∧ k < m - i + (m + j - m)
  · rw [if_pos h1, if_neg (by omega), if_neg (by omega), if_pos (by omega)]
  · rw [if_neg h1]
    by_cases h2 : m - i + (m + j - m) ≤ k ∧ k < m + j
    · rw [if_pos h2]
      by_cases h3 : m - (i - j) ≤ k ∧ k < m - (i - j) + (m + j - m)
      · rw [if_pos h3, if_neg (by omega), if_pos (by omega)]
        congr 1; omega
      · rw [if_neg h3, if_pos (by omega), if_neg (by omega), if_neg (by omega)]
    · rw [if_neg h2, if_neg (by omega), if_neg (by omega), if_neg (by omega), if_neg (by omega)]
theorem rt_lt (m i j : Nat) (f : Nat → Tg) (him : i ≤ m) (h : i < j) : rt (m - i) m (m + j) f = rt (m - i) m (m + (j - i)) (sw (m - i) (m + j - i) i f) := by
  funext k
  unfold rt sw
  by_cases h1 : m - i ≤ k ∧ k < m - i + (m + (j - i) - m)
  · rw [if_pos (show m - i ≤ k ∧ k < m - i + (m + j - m) by omega), if_pos h1]
    by_cases h2 : m - i ≤ k - (m - i) + m ∧ k - (m - i) + m < m - i + i
    · omega
    · rw [if_neg h2, if_neg (by omega)]
  · rw [if_neg h1]
    by_cases h2 : m - i + (m + (j - i) - m) ≤ k ∧ k < m + (j - i)
    · rw [if_pos h2, if_pos (by omega), if_pos (by omega)]
      congr 1; omega
    · rw [if_neg h2]
      by_cases h3 : m + j - i ≤ k ∧ k < m + j - i + i
      · rw [if_neg (by omega), if_pos (by omega), if_neg (by omega), if_pos h3]
        congr 1; omega
      · rw [if_neg (by omega), if_neg (by omega), if_neg (by omega), if_neg h3]
theorem rt_eq (m i : Nat) (f : Nat → Tg) (him : i ≤ m) : rt (m - i) m (m + i) f = sw (m - i) m i f := by
  funext k
  unfold rt sw
  by_cases h1 : m - i ≤ k ∧ k < m - i + i
  · rw [if_pos (by omega), if_pos h1]
  · rw [if_neg (by omega), if_neg h1]
    by_cases h2 : m ≤ k ∧ k < m + i
    · rw [if_pos (by omega), if_pos h2]; congr 1; omega
    · rw [if_neg (by omega), if_neg h2]
theorem rt_left (m b : Nat) (f : Nat → Tg) : rt m m b f = f := by
  funext k
  unfold rt
  by_cases h1 : m ≤ k ∧ k < m + (b - m)
  · rw [if_pos h1]; congr 1; omega
  · rw [if_neg h1, if_neg (by omega)]
theorem rt_right (a m : Nat) (f : Nat → Tg) : rt a m m f = f := by
  funext k
  unfold rt
  rw [if_neg (by omega)]
  by_cases h1 : a + (m - m) ≤ k ∧ k < m
  · rw [if_pos h1]; congr 1; omega
  · rw [if_neg h1]
/-- One element pushed to the right; one pulled to the left. -/
theorem rt_push (a k : Nat) (f : Nat → Tg) (h : a ≤ k) : (fun q => if q = k + 1 then rt a (a + 1) (k + 1) f k else if q = k then rt a (a + 1) (k + 1) f (k + 1) else rt a (a + 1) (k + 1) f q) = rt a (a + 1) (k + 2) f := by
  funext q
  unfold rt
  by_cases h1 : q = k + 1
  · subst h1
    rw [if_pos rfl, if_neg (by omega), if_pos (by omega), if_neg (by omega), if_pos (by omega)]
    congr 1; omega
  · rw [if_neg h1]
    by_cases h2 : q = k
    · subst h2
      rw [if_pos rfl, if_neg (by omega), if_neg (by omega), if_pos (by omega)]
      congr 1; omega
    · rw [if_neg h2]
      by_cases h3 : a ≤ q ∧ q < a + (k + 1 - (a + 1))
      · rw [if_pos h3, if_pos (by omega)]
      · rw [if_neg h3, if_neg (by omega), if_neg (by omega), if_neg (by omega)]
theorem rt_pull (k m : Nat) (f : Nat → Tg) (h : k + 1 ≤ m) : (fun q => if q = k then rt (k + 1) m (m + 1) f (k + 1) else if q = k + 1 then rt (k + 1) m (m + 1) f k else rt (k + 1) m (m + 1) f q) = rt k m (m + 1) f := by
  funext q
  unfold rt
  by_cases h1 : q = k
  · subst h1
    rw [if_pos rfl, if_pos (by omega), if_pos (by omega)]
    congr 1; omega
  · rw [if_neg h1]
    by_cases h2 : q = k + 1
    · subst h2
      rw [if_pos rfl, if_neg (by omega), if_neg (by omega), if_neg (by omega), if_pos (by omega)]
      congr 1; omega
    · rw [if_neg h2]
      by_cases h3 : k + 1 + (m + 1 - m) ≤ q ∧ q < m + 1
      · rw [if_neg (by omega), if_pos h3, if_neg (by omega), if_pos (by omega)]
      · rw [if_neg (by omega), if_neg h3, if_neg (by omega), if_neg (by omega)]

/-- In order from a on, ahead of b. -/
def Inc (a b : Nat) (f : Nat → Tg) : Prop := ∀ i j, a ≤ i → i < j → j < b → Part.ahead (f i) (f j)
def Lo (a m b : Nat) (f : Nat → Tg) : Prop := ∀ i j, a ≤ i → i < m → m ≤ j → j < b → (f i).2 < (f j).2
def All (a m b : Nat) (f : Nat → Tg) : Prop := ∀ i j, a ≤ i → i < m → m ≤ j → j < b → Part.ahead (f i) (f j)
structure Pre (a m b : Nat) (f : Nat → Tg) : Prop where
  l : Inc a m f
  r : Inc m b f
  t : Lo a m b f
theorem inc_join {a m b : Nat} {f : Nat → Tg} (h1 : Inc a m f) (h2 : Inc m b f) (h3 : All a m b f) : Inc a b f := fun i j hi hij hj => by
  rcases Nat.lt_or_ge j m with h | h
  · exact h1 i j hi hij h
  · rcases Nat.lt_or_ge i m with h' | h'
    · exact h3 i j hi h' h hj
    · exact h2 i j h' hij hj
theorem inc_le {a b : Nat} {f : Nat → Tg} (h : Inc a b f) {i j : Nat} (hi : a ≤ i) (hij : i ≤ j) (hj : j < b) : (f i).1.pos ≤ (f j).1.pos := by
  rcases Nat.lt_or_ge i j with h1 | h1
  · have := h i j hi h1 hj; unfold Part.ahead at this; omega
  · obtain rfl : i = j := by omega
    exact Int.le_refl _
theorem inc_none {a b : Nat} {f : Nat → Tg} (h : b ≤ a + 1) : Inc a b f := fun i j hi hij hj => by omega
theorem ahead_of {x y : Tg} (h1 : x.1.pos ≤ y.1.pos) (h2 : x.2 < y.2) : Part.ahead x y := by unfold Part.ahead; omega
theorem ahead_lt {x y : Tg} (h1 : x.1.pos < y.1.pos) : Part.ahead x y := .inl h1

/-- Behind the rotation: two smaller merges. -/
theorem split {a s m t b : Nat} {f : Nat → Tg} (P : Pre a m b f) (h1 : a ≤ s) (h2 : s ≤ m) (h3 : m ≤ t) (h4 : t ≤ b)
    (hA : ∀ p q, a ≤ p → p < s → t ≤ q → q < b → Part.ahead (f p) (f q)) (hB : ∀ p q, s ≤ p → p < m → m ≤ q → q < t → Part.ahead (f q) (f p)) :
    Pre a s (s + (t - m)) (rt s m t f) ∧ Pre (s + (t - m)) t b (rt s m t f) ∧ All a (s + (t - m)) b (rt s m t f) := by
  have g1 : ∀ k, k < s → rt s m t f k = f k := fun k hk => by unfold rt; rw [if_neg (by omega), if_neg (by omega)]
  have g2 : ∀ k, s ≤ k → k < s + (t - m) → rt s m t f k = f (k - s + m) := fun k hk hk2 => by unfold rt; rw [if_pos ⟨hk, hk2⟩]
  have g3 : ∀ k, s + (t - m) ≤ k → k < t → rt s m t f k = f (k - (t - m)) := fun k hk hk2 => by unfold rt; rw [if_neg (by omega), if_pos ⟨hk, hk2⟩]
  have g4 : ∀ k, t ≤ k → rt s m t f k = f k := fun k hk => by unfold rt; rw [if_neg (by omega), if_neg (by omega)]
  refine ⟨⟨fun i j hi hij hj => ?_, fun i j hi hij hj => ?_, fun i j hi him hj hjb => ?_⟩, ⟨fun i j hi hij hj => ?_, fun i j hi hij hj => ?_, fun i j hi him hj hjb => ?_⟩, fun i j hi him hj hjb => ?_⟩
  · rw [g1 i (by omega), g1 j hj]; exact P.l i j hi hij (by omega)
  · rw [g2 i hi (by omega), g2 j (by omega) hj]; exact P.r _ _ (by omega) (by omega) (by omega)
  · rw [g1 i him, g2 j hj hjb]; exact P.t _ _ hi (by omega) (by omega) (by omega)
  · rw [g3 i hi (by omega), g3 j (by omega) hj]; exact P.l _ _ (by omega) (by omega) (by omega)
  · rw [g4 i hi, g4 j (by omega)]; exact P.r _ _ (by omega) hij hj
  · rw [g3 i hi him, g4 j hj]; exact P.t _ _ (by omega) (by omega) (by omega) hjb
  · rcases Nat.lt_or_ge i s with hs | hs
    · rw [g1 i hs]
      rcases Nat.lt_or_ge j t with ht | ht
      · rw [g3 j hj ht]; exact P.l _ _ hi (by omega) (by omega)
      · rw [g4 j ht]; exact hA _ _ hi hs ht hjb
    · rw [g2 i hs him]
      rcases Nat.lt_or_ge j t with ht | ht
      · rw [g3 j hj ht]; exact hB _ _ (by omega) (by omega) (by omega) (by omega)
      · rw [g4 j ht]; exact P.r _ _ (by omega) (by omega) hjb
theorem pre_left {a c : Nat} {f : Nat → Tg} (h : Pre a a c f) : Inc a c f := h.r
theorem pre_right {a c : Nat} {f : Nat → Tg} (h : Pre a c c f) : Inc a c f := h.l

/-- The search along the two halves, one from behind. -/
theorem search_yes {a m b c c' p : Nat} {f : Nat → Tg} (P : Pre a m b f) (h0 : a ≤ c') (h1 : c' ≤ c) (h2 : c < m) (h3 : m ≤ p - c) (h4 : p - c' < b) (hc : c ≤ p) (h : (f c).1.pos ≤ (f (p - c)).1.pos) : (f c').1.pos ≤ (f (p - c')).1.pos := by
  have e1 := inc_le P.l h0 h1 h2
  have e2 := inc_le P.r h3 (show p - c ≤ p - c' by omega) h4
  omega
theorem search_no {a m b c c' p : Nat} {f : Nat → Tg} (P : Pre a m b f) (h0 : a ≤ c) (h1 : c ≤ c') (h2 : c' < m) (h3 : m ≤ p - c') (h4 : p - c < b) (hc : c' ≤ p) (h : (f (p - c)).1.pos < (f c).1.pos) : (f (p - c')).1.pos < (f c').1.pos := by
  have e1 := inc_le P.l h0 h1 h2
  have e2 := inc_le P.r h3 (show p - c' ≤ p - c by omega) h4
  omega

/-- What a permutation of a stretch keeps. -/
theorem permIn_fn {a b : Nat} {d d' : Array Tg} (h : PermIn a b d d') (k : Nat) (hk : k < a ∨ b ≤ k) : fn d' k = fn d k := h.2.1 k hk
theorem perm_swp {a b : Nat} {d dk : Array Tg} (h : PermIn a b d dk) (i j : Nat) (hi : a ≤ i) (hib : i < b) (hj : a ≤ j) (hjb : j < b) (hb : b ≤ d.size) : PermIn a b d (swp dk i j) :=
  permIn_trans _ _ _ _ _ h (swp_permIn dk a b i j hi hib hj hjb (by rw [h.1]; exact hb))
theorem perm_wide {a b a' b' : Nat} {d d' : Array Tg} (h : PermIn a b d d') (ha : a' ≤ a) (hb : b ≤ b') (hs : b' ≤ d.size) : PermIn a' b' d d' := permIn_mono d d' a b a' b' ha hb hs h
/-- The whole out of the two halves, each in order, behind one another. -/
theorem whole_inc {a c b : Nat} {d d1 d2 : Array Tg} (hc : a ≤ c) (hcb : c ≤ b) (hb : b ≤ d.size) (hall : All a c b (fn d)) (h1 : PermIn a c d d1) (i1 : Inc a c (fn d1)) (h2 : PermIn c b d1 d2) (i2 : Inc c b (fn d2)) : Inc a b (fn d2) := by
  have hs1 : d1.size = d.size := h1.1
  refine inc_join (m := c) (fun i j hi hij hj => ?_) i2 (fun i j hi him hj hjb => ?_)
  · rw [permIn_fn h2 i (.inl (by omega)), permIn_fn h2 j (.inl hj)]; exact i1 i j hi hij hj
  · rw [permIn_fn h2 i (.inl him)]
    refine permIn_all d1 d2 c b (fun y => Part.ahead (fn d1 i) y) (by omega) h2 (fun j' h3 h4 => ?_) j hj hjb
    have e : d1[j']! = fn d j' := permIn_fn h1 j' (.inr h3)
    rw [e]
    exact permIn_all d d1 a c (fun x => Part.ahead x (fn d j')) (by omega) h1 (fun i' h5 h6 => hall i' j' h5 h6 h3 h4) i hi him
/-- The insertion of the next one. -/
structure Ins (a j i : Nat) (f : Nat → Tg) : Prop where
  rest : ∀ p q, a ≤ p → p < q → q ≤ i → p ≠ j → q ≠ j → Part.ahead (f p) (f q)
  over : ∀ q, j < q → q ≤ i → Part.ahead (f j) (f q)
  last : ∀ p, a ≤ p → p ≤ i → p ≠ j → (f p).2 < (f j).2
theorem Ins.start {a i : Nat} {f : Nat → Tg} (h : Inc a i f) (ht : ∀ p, a ≤ p → p < i → (f p).2 < (f i).2) : Ins a i i f :=
  ⟨fun p q hp hpq hq h1 h2 => h p q hp hpq (by omega), fun q h1 h2 => by omega, fun p h1 h2 h3 => ht p h1 (by omega)⟩
theorem Ins.stop {a j i : Nat} {f : Nat → Tg} (h : Ins a j i f) (hj : j ≤ i) (hs : j ≤ a ∨ (f (j - 1)).1.pos ≤ (f j).1.pos) : Inc a (i + 1) f := fun p q hp hpq hq => by
  by_cases h1 : p = j
  · subst h1; exact h.over q hpq (by omega)
  · by_cases h2 : q = j
    · subst h2
      rcases hs with hs | hs
      · omega
      · refine ahead_of ?_ (h.last p hp (by omega) h1)
        rcases Nat.lt_or_ge p (q - 1) with h3 | h3
        · have := h.rest p (q - 1) hp h3 (by omega) h1 (by omega)
          unfold Part.ahead at this; omega
        · have e : p = q - 1 := by omega
          rw [e]; exact hs
    · exact h.rest p q hp hpq (by omega) h1 h2
theorem Ins.step {a j i : Nat} {f g : Nat → Tg} (h : Ins a (j + 1) i f) (haj : a ≤ j) (hji : j + 1 ≤ i) (hl : (f (j + 1)).1.pos < (f j).1.pos) (hg : g = fun k => if k = j then f (j + 1) else if k = j + 1 then f j else f k) : Ins a j i g := by
  have e1 : g j = f (j + 1) := by rw [hg]; simp
  have e2 : g (j + 1) = f j := by rw [hg]; simp
  have e3 : ∀ k, k ≠ j → k ≠ j + 1 → g k = f k := fun k h1 h2 => by rw [hg]; simp [h1, h2]
  refine ⟨fun p q hp hpq hq h1 h2 => ?_, fun q h1 h2 => ?_, fun p h1 h2 h3 => ?_⟩
  · by_cases h4 : p = j + 1
    · rw [h4, e2, e3 q h2 (by omega)]; exact h.rest j q haj (by omega) hq (by omega) (by omega)
    · by_cases h5 : q = j + 1
      · rw [h5, e2, e3 p h1 h4]; exact h.rest p j hp (by omega) (by omega) h4 (by omega)
      · rw [e3 p h1 h4, e3 q h2 h5]; exact h.rest p q hp hpq hq h4 h5
  · rw [e1]
    by_cases h4 : q = j + 1
    · rw [h4, e2]; exact ahead_lt hl
    · rw [e3 q (by omega) h4]; exact h.over q (by omega) h2
  · rw [e1]
    by_cases h4 : p = j + 1
    · rw [h4, e2]; exact h.last j haj (by omega) (by omega)
    · rw [e3 p h3 h4]; exact h.last p h1 h2 h4
/-- All of it in order is the stable order. -/
theorem ordered_of {l : List Prt} {d d' : Array Tg} (hd : d.toList = l.zipIdx) (hp : PermIn 0 d.size d d') (hi : Inc 0 d.size (fn d')) : Ordered l (d'.toList.map (·.1)) := by
  have hs : d'.size = d.size := hp.1
  have h2 := hp.2.2
  rw [show d'.extract 0 d.size = d' by rw [← hs]; simp, show d.extract 0 d.size = d by simp] at h2
  refine ⟨d'.toList, by rw [← hd]; exact h2, ?_, rfl⟩
  rw [List.pairwise_iff_getElem]
  intro i j h3 h4 h5
  have h6 : i < d'.size := by simpa using h3
  have h7 : j < d'.size := by simpa using h4
  have := hi i j (Nat.zero_le _) h5 (by omega)
  unfold fn at this
  rw [getElem!_pos d' i h6, getElem!_pos d' j h7] at this
  simpa using this
end Go.Proofs.YtaflpdagehocfaaDoor.Srt
