/- The selective repeat protocol as a function of the fates: what is held, what waits, what is got. No statement is proved here. -/
import Derived.Test.YthiebkkfgegebaaAbpMath
import Derived.Test.YthiebkkfgegebaaMapF
namespace Go.Proofs.Ythiebkkfgegebaa.SrepMath
open Go.Proofs.Ythiebkkfgegebaa.Fate Go.Proofs.Ythiebkkfgegebaa.MapF

/-- The first of k positions from a on that has the same rest by R. -/
def fnd (R x : Nat) : Nat → Nat → Option Nat
  | 0, _ => none
  | k + 1, a => if a % R = x % R then some a else fnd R x k (a + 1)
/-- What k positions from a on hold, till one holds nothing; and that one. -/
def pas {α : Type} (h : Nat → Option α) : Nat → Nat → List α × Nat
  | 0, a => ([], a)
  | k + 1, a => match h a with
    | none => ([], a)
    | some v => (v :: (pas h k (a + 1)).1, (pas h k (a + 1)).2)
def spn (a b : Nat) : List Nat := List.range' a (b - a)
/-- What the receiver holds behind a packet. -/
def rec (l : List Int) (W R x rf : Nat) (rh : Nat → Option Int) : Nat → Option Int :=
  match fnd R x W rf with
  | none => rh
  | some p => upd rh p (l[x]?.getD 0)
/-- What the sender holds behind an acknowledgment. -/
def snd (n W R x sf : Nat) (sh : Nat → Option Bool) : Nat → Option Bool :=
  match fnd R x W sf with
  | none => sh
  | some p => if p < n then upd sh p true else sh
def back (sh : Nat → Option Bool) (x : Nat) (q : List Nat) : List Nat := if (sh x).getD false = true then q else q ++ [x]
structure St where
  rf : Nat
  rh : Nat → Option Int
  g : List Int
  sf : Nat
  sh : Nat → Option Bool
  q : List Nat
/-- A packet is sent: one of the queue, x, is there no more. -/
def step (l : List Int) (W R : Nat) (f : Fat) (x : Nat) (q : List Nat) (s : St) : St :=
  if f.there = true then { s with q := back s.sh x q }
  else
    let rh := rec l W R x s.rf s.rh
    let p := pas rh W s.rf
    if f.back = true then { s with rf := p.2, rh := rh, g := s.g ++ p.1, q := back s.sh x q }
    else
      let sh := snd l.length W R x s.sf s.sh
      let b := (pas sh W s.sf).2
      ⟨p.2, rh, s.g ++ p.1, b, sh, back sh x (q ++ spn (s.sf + W) (min (b + W) l.length))⟩
def run (l : List Int) (W R : Nat) : List Fat → St → St
  | [], s => s
  | f :: fs, s => match s.q with
    | [] => s
    | x :: q => run l W R fs (step l W R f x q s)
def st0 (n W : Nat) : St := ⟨0, fun _ => none, [], 0, fun _ => none, spn 0 (min W n)⟩

theorem run_nil {l : List Int} {W R : Nat} {fs : List Fat} {s : St} (h : s.q = []) : run l W R fs s = s := by
  cases fs with
  | nil => rfl
  | cons f fs => rw [run, h]
theorem run_cons {l : List Int} {W R : Nat} {f : Fat} {fs : List Fat} {s : St} {x : Nat} {q : List Nat} (h : s.q = x :: q) : run l W R (f :: fs) s = run l W R fs (step l W R f x q s) := by rw [run, h]

/-! ### the parts -/
theorem fnd_some {R x : Nat} : ∀ {k a p : Nat}, fnd R x k a = some p → a ≤ p ∧ p < a + k ∧ p % R = x % R
  | 0, a, p, h => by cases h
  | k + 1, a, p, h => by
    rw [fnd] at h
    by_cases e : a % R = x % R
    · rw [if_pos e] at h
      injection h with h
      subst h
      exact ⟨Nat.le_refl _, by omega, e⟩
    · rw [if_neg e] at h
      have := fnd_some h
      exact ⟨by omega, by omega, this.2.2⟩
theorem fnd_none {R x : Nat} : ∀ {k a : Nat}, fnd R x k a = none → ∀ p, a ≤ p → p < a + k → p % R ≠ x % R
  | 0, a, h, p, h1, h2 => by omega
  | k + 1, a, h, p, h1, h2 => by
    rw [fnd] at h
    by_cases e : a % R = x % R
    · rw [if_pos e] at h; cases h
    · rw [if_neg e] at h
      by_cases hp : p = a
      · subst hp; exact e
      · exact fnd_none h p (by omega) (by omega)
theorem same_of_near {R s c : Nat} (h : s % R = c % R) (h1 : s < c + R) (h2 : c < s + R) : s = c := by
  rcases Nat.lt_or_ge s c with hlt | hge
  · have : (c - s) % R = 0 := Nat.sub_mod_eq_zero_of_mod_eq h.symm
    rw [Nat.mod_eq_of_lt (by omega)] at this
    omega
  · have : (s - c) % R = 0 := Nat.sub_mod_eq_zero_of_mod_eq h
    rw [Nat.mod_eq_of_lt (by omega)] at this
    omega
/-- Where no other position of the window has the number. -/
theorem fnd_near {R x W a : Nat} (h1 : x < a + W) (h2 : a + W ≤ x + R) (h3 : W ≤ R) : fnd R x W a = if a ≤ x then some x else none := by
  cases h : fnd R x W a with
  | none =>
    rw [if_neg]
    intro ha
    exact fnd_none h x ha h1 rfl
  | some p =>
    obtain ⟨h4, h5, h6⟩ := fnd_some h
    have hp : p = x := same_of_near h6 (by omega) (by omega)
    subst hp
    rw [if_pos h4]
theorem pas_le {α : Type} (h : Nat → Option α) : ∀ (k a : Nat), a ≤ (pas h k a).2 ∧ (pas h k a).2 ≤ a + k ∧ (pas h k a).1.length = (pas h k a).2 - a
  | 0, a => ⟨Nat.le_refl _, Nat.le_refl _, by show 0 = a - a; omega⟩
  | k + 1, a => by
    rw [pas]
    cases e : h a with
    | none => exact ⟨Nat.le_refl _, by show a ≤ _; omega, by show 0 = a - a; omega⟩
    | some v =>
      have := pas_le h k (a + 1)
      refine ⟨?_, ?_, ?_⟩
      · show a ≤ (pas h k (a + 1)).2; omega
      · show (pas h k (a + 1)).2 ≤ _; omega
      · show (pas h k (a + 1)).1.length + 1 = (pas h k (a + 1)).2 - a; omega
theorem pas_held {α : Type} (h : Nat → Option α) : ∀ (k a j : Nat), a ≤ j → j < (pas h k a).2 → (h j).isSome = true
  | 0, a, j, h1, h2 => by
    have : j < a := h2
    omega
  | k + 1, a, j, h1, h2 => by
    rw [pas] at h2
    cases e : h a with
    | none =>
      rw [e] at h2
      have : j < a := h2
      omega
    | some v =>
      rw [e] at h2
      by_cases hj : j = a
      · subst hj; rw [e]; rfl
      · exact pas_held h k (a + 1) j (by omega) h2
theorem pas_stop {α : Type} (h : Nat → Option α) : ∀ (k a : Nat), h (pas h k a).2 = none ∨ (pas h k a).2 = a + k
  | 0, a => .inr rfl
  | k + 1, a => by
    rw [pas]
    cases e : h a with
    | none => exact .inl e
    | some v =>
      rcases pas_stop h k (a + 1) with h1 | h1
      · exact .inl h1
      · exact .inr (by show (pas h k (a + 1)).2 = _; omega)
theorem pas_list (h : Nat → Option Int) (l : List Int) : ∀ (k a : Nat), (∀ j v, a ≤ j → h j = some v → j < l.length ∧ v = l[j]?.getD 0) → a ≤ l.length → l.take a ++ (pas h k a).1 = l.take (pas h k a).2
  | 0, a, _, _ => by show l.take a ++ [] = _; rw [List.append_nil]; rfl
  | k + 1, a, hh, ha => by
    rw [pas]
    cases e : h a with
    | none => show l.take a ++ [] = _; rw [List.append_nil]
    | some v =>
      obtain ⟨h1, h2⟩ := hh a v (Nat.le_refl _) e
      show l.take a ++ (v :: (pas h k (a + 1)).1) = l.take (pas h k (a + 1)).2
      rw [← pas_list h l k (a + 1) (fun j w hj => hh j w (by omega)) (by omega), List.take_add_one, List.append_assoc, h2, List.getElem?_eq_getElem h1]
      rfl
theorem spn_mem {a b x : Nat} : x ∈ spn a b ↔ a ≤ x ∧ x < b := by
  unfold spn
  rw [List.mem_range'_1]
  omega
theorem spn_nodup (a b : Nat) : (spn a b).Nodup := List.nodup_range'
theorem spn_len (a b : Nat) : (spn a b).length = b - a := List.length_range'
theorem spn_cons {a b : Nat} (h : a < b) : spn a b = a :: spn (a + 1) b := by
  unfold spn
  rw [show b - a = (b - (a + 1)) + 1 by omega, List.range'_succ]
theorem spn_nil {a b : Nat} (h : b ≤ a) : spn a b = [] := by
  unfold spn
  rw [show b - a = 0 by omega]; rfl
theorem spn_end {a b : Nat} (h : a ≤ b) : spn a (b + 1) = spn a b ++ [b] := by
  unfold spn
  rw [show b + 1 - a = (b - a) + 1 by omega, List.range'_concat]
  congr 2
  omega

theorem step_lost (l : List Int) (W R : Nat) {f : Fat} (x : Nat) (q : List Nat) (rf : Nat) (rh : Nat → Option Int) (g : List Int) (sf : Nat) (sh : Nat → Option Bool) (q0 : List Nat) (h1 : f.there = true) :
    step l W R f x q ⟨rf, rh, g, sf, sh, q0⟩ = ⟨rf, rh, g, sf, sh, back sh x q⟩ := by unfold step; rw [if_pos h1]
theorem step_back (l : List Int) (W R : Nat) {f : Fat} (x : Nat) (q : List Nat) (rf : Nat) (rh : Nat → Option Int) (g : List Int) (sf : Nat) (sh : Nat → Option Bool) (q0 : List Nat) (h1 : f.there = false) (h2 : f.back = true)
    {RH : Nat → Option Int} (h3 : rec l W R x rf rh = RH) {L : List Int} {F : Nat} (h4 : pas RH W rf = (L, F)) :
    step l W R f x q ⟨rf, rh, g, sf, sh, q0⟩ = ⟨F, RH, g ++ L, sf, sh, back sh x q⟩ := by
  unfold step
  rw [if_neg (by rw [h1]; decide)]
  dsimp only
  rw [if_pos h2, h3, h4]
theorem step_fine (l : List Int) (W R : Nat) {f : Fat} (x : Nat) (q : List Nat) (rf : Nat) (rh : Nat → Option Int) (g : List Int) (sf : Nat) (sh : Nat → Option Bool) (q0 : List Nat) (h1 : f.there = false) (h2 : f.back = false)
    {RH : Nat → Option Int} (h3 : rec l W R x rf rh = RH) {L : List Int} {F : Nat} (h4 : pas RH W rf = (L, F)) {SH : Nat → Option Bool} (h5 : snd l.length W R x sf sh = SH) {L2 : List Bool} {F2 : Nat} (h6 : pas SH W sf = (L2, F2)) {b e : Nat} (h7 : sf + W = b) (h8 : min (F2 + W) l.length = e) :
    step l W R f x q ⟨rf, rh, g, sf, sh, q0⟩ = ⟨F, RH, g ++ L, F2, SH, back SH x (q ++ spn b e)⟩ := by
  unfold step
  rw [if_neg (by rw [h1]; decide)]
  dsimp only
  rw [if_neg (by rw [h2]; decide), h3, h4, h5, h6]
  dsimp only
  rw [h7, h8]
theorem rec_no {l : List Int} {W R x rf : Nat} {rh : Nat → Option Int} (h : fnd R x W rf = none) : rec l W R x rf rh = rh := by unfold rec; rw [h]
theorem rec_yes {l : List Int} {W R x rf p : Nat} {rh : Nat → Option Int} (h : fnd R x W rf = some p) : rec l W R x rf rh = upd rh p (l[x]?.getD 0) := by unfold rec; rw [h]
theorem snd_no {n W R x sf : Nat} {sh : Nat → Option Bool} (h : fnd R x W sf = none) : snd n W R x sf sh = sh := by unfold snd; rw [h]
theorem snd_yes {n W R x sf p : Nat} {sh : Nat → Option Bool} (h : fnd R x W sf = some p) (hp : p < n) : snd n W R x sf sh = upd sh p true := by unfold snd; rw [h]; exact if_pos hp
theorem snd_far {n W R x sf p : Nat} {sh : Nat → Option Bool} (h : fnd R x W sf = some p) (hp : ¬ p < n) : snd n W R x sf sh = sh := by unfold snd; rw [h]; exact if_neg hp

/-! ### what holds behind so many fates, whatever the numbers -/
structure Inv (n W i : Nat) (s : St) : Prop where
  q : ∀ x ∈ s.q, x < n
  ql : s.q.length ≤ 8 + 9 * i
  rf : s.rf ≤ 8 * i
  gl : s.g.length ≤ 8 * i
  sf : s.sf ≤ n
  rh : ∀ j, s.rf + W ≤ j → s.rh j = none
  sh : ∀ j v, s.sh j = some v → j < n ∧ j < s.sf + W ∧ v = true
theorem inv0 (n W : Nat) (hW : W ≤ 8) : Inv n W 0 (st0 n W) := by
  refine ⟨fun x hx => ?_, ?_, Nat.le_refl _, Nat.le_refl _, Nat.zero_le _, fun _ _ => rfl, fun _ _ h => by cases h⟩
  · have := (spn_mem.1 hx).2; omega
  · show (spn 0 (min W n)).length ≤ _; rw [spn_len]; omega
theorem rec_none {l : List Int} {W R x rf : Nat} {rh : Nat → Option Int} (h : ∀ j, rf + W ≤ j → rh j = none) : ∀ j, rf + W ≤ j → rec l W R x rf rh j = none := fun j hj => by
  unfold rec
  cases e : fnd R x W rf with
  | none => exact h j hj
  | some p =>
    have := fnd_some e
    show upd rh p _ j = none
    rw [upd_other _ _ (by omega)]
    exact h j hj
theorem snd_some {n W R x sf : Nat} {sh : Nat → Option Bool} (h : ∀ j v, sh j = some v → j < n ∧ j < sf + W ∧ v = true) : ∀ j v, snd n W R x sf sh j = some v → j < n ∧ j < sf + W ∧ v = true := fun j v hj => by
  unfold snd at hj
  cases e : fnd R x W sf with
  | none => rw [e] at hj; exact h j v hj
  | some p =>
    rw [e] at hj
    have := fnd_some e
    by_cases hp : p < n
    · have hj : upd sh p true j = some v := by simpa [hp] using hj
      by_cases hjp : j = p
      · subst hjp
        rw [upd_same] at hj
        injection hj with hj
        exact ⟨hp, by omega, hj.symm⟩
      · rw [upd_other _ _ hjp] at hj
        exact h j v hj
    · exact h j v (by simpa [hp] using hj)
theorem back_mem {sh : Nat → Option Bool} {x n : Nat} {q : List Nat} (hx : x < n) (hq : ∀ y ∈ q, y < n) : ∀ y ∈ back sh x q, y < n := fun y hy => by
  unfold back at hy
  split at hy
  · exact hq y hy
  · rcases List.mem_append.1 hy with h | h
    · exact hq y h
    · rw [List.mem_singleton.1 h]; exact hx
theorem back_len (sh : Nat → Option Bool) (x : Nat) (q : List Nat) : (back sh x q).length ≤ q.length + 1 := by
  unfold back
  split
  · omega
  · rw [List.length_append]; exact Nat.le_refl _
theorem mono_none {α : Type} {h : Nat → Option α} {a b W : Nat} (hh : ∀ j, a + W ≤ j → h j = none) (hab : a ≤ b) : ∀ j, b + W ≤ j → h j = none := fun j hj => hh j (by omega)
theorem inv_step {l : List Int} {W R i : Nat} (hW : W ≤ 8) {f : Fat} {x : Nat} {q : List Nat} {s : St} (hq : s.q = x :: q) (h : Inv l.length W i s) : Inv l.length W (i + 1) (step l W R f x q s) := by
  obtain ⟨h1, h2, h3, h4, h5, h6, h7⟩ := h
  rw [hq] at h1 h2
  rw [List.length_cons] at h2
  have hx := h1 x (List.mem_cons_self ..)
  have hq' : ∀ y ∈ q, y < l.length := fun y hy => h1 y (List.mem_cons_of_mem _ hy)
  have p1 := pas_le (rec l W R x s.rf s.rh) W s.rf
  have p2 := pas_le (snd l.length W R x s.sf s.sh) W s.sf
  have hsn := snd_some (R := R) (x := x) (sf := s.sf) h7
  have p3 : (pas (snd l.length W R x s.sf s.sh) W s.sf).2 ≤ l.length := by
    rcases Nat.lt_or_ge l.length (pas (snd l.length W R x s.sf s.sh) W s.sf).2 with hlt | hge
    · have := pas_held (snd l.length W R x s.sf s.sh) W s.sf l.length h5 hlt
      obtain ⟨v, hv⟩ := Option.isSome_iff_exists.1 this
      have := (hsn _ v hv).1
      omega
    · exact hge
  unfold step
  split
  · exact ⟨back_mem hx hq', by have := back_len s.sh x q; show (back s.sh x q).length ≤ _; omega, by show s.rf ≤ _; omega, by show s.g.length ≤ _; omega, h5, h6, h7⟩
  · split
    · exact ⟨back_mem hx hq', by have := back_len s.sh x q; show (back s.sh x q).length ≤ _; omega, by show (pas _ W s.rf).2 ≤ _; omega, by
        show (s.g ++ (pas (rec l W R x s.rf s.rh) W s.rf).1).length ≤ _
        rw [List.length_append]; omega, h5, mono_none (rec_none h6) p1.1, h7⟩
    · refine ⟨back_mem hx (fun y hy => ?_), ?_, by show (pas _ W s.rf).2 ≤ _; omega, by
        show (s.g ++ (pas (rec l W R x s.rf s.rh) W s.rf).1).length ≤ _
        rw [List.length_append]; omega, p3, mono_none (rec_none h6) p1.1, fun j v hv => ?_⟩
      · rcases List.mem_append.1 hy with h | h
        · exact hq' y h
        · have := (spn_mem.1 h).2; omega
      · have := back_len (snd l.length W R x s.sf s.sh) x (q ++ spn (s.sf + W) (min ((pas (snd l.length W R x s.sf s.sh) W s.sf).2 + W) l.length))
        rw [List.length_append, spn_len] at this
        show (back _ x _).length ≤ _
        omega
      · have := hsn j v hv
        exact ⟨this.1, by show j < (pas _ W s.sf).2 + W; omega, this.2.2⟩
/-- What is known is at most what there is. -/
theorem run_known (l : List Int) (W R : Nat) (hW : W ≤ 8) : ∀ (fs : List Fat) (i : Nat) (s : St), Inv l.length W i s → (run l W R fs s).sf ≤ l.length
  | [], i, s, h => h.sf
  | f :: fs, i, s, h => by
    cases e : s.q with
    | nil => rw [run_nil e]; exact h.sf
    | cons x q => rw [run_cons e]; exact run_known l W R hW fs (i + 1) _ (inv_step hW e h)
end Go.Proofs.Ythiebkkfgegebaa.SrepMath
