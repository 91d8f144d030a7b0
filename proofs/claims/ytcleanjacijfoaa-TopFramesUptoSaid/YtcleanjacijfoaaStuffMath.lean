/- The mathematics of bit stuffing: stuffing and unstuffing by a count of ones, flags, frames. No statement is proved here. -/
import Derived.Test.YtcleanjacijfoaaKit
namespace Go.Proofs.Ytcleanjacijfoaa.StuffMath
set_option linter.unusedVariables false

/-- How many ones are on end behind one more bit. -/
def cnt (c : Nat) (b : Int) : Nat := if b = 0 then 0 else c + 1
/-- Stuffed bits, behind c ones. -/
def stf : Nat → List Int → List Int
  | _, [] => []
  | c, b :: l => if cnt c b = 5 then b :: 0 :: stf 0 l else b :: stf (cnt c b) l
/-- Unstuffed bits, behind c ones; none if they were not stuffed. -/
def ust : Nat → List Int → Option (List Int)
  | c, [] => if c < 5 then some [] else none
  | c, b :: l => if c < 5 then (ust (cnt c b) l).map (fun x => b :: x) else if b = 0 then ust 0 l else none
/-- The binl without each that is behind five ones. -/
def rmv : Nat → List Int → List Int
  | _, [] => []
  | c, b :: l => if c < 5 then b :: rmv (cnt c b) l else rmv 0 l
/-- Whether all are 0 or 1. -/
def binl (l : List Int) : Bool := l.all fun b => b == 0 || b == 1

theorem cnt_le {c : Nat} {b : Int} (h : c ≤ 4) : cnt c b ≤ 5 := by unfold cnt; split <;> omega

theorem ust_stf : ∀ (l : List Int) (c : Nat), c ≤ 4 → ust c (stf c l) = some l := by
  intro l
  induction l with
  | nil => intro c hc; simp [stf, ust]; omega
  | cons b l ih =>
    intro c hc
    have h1 := @cnt_le c b hc
    unfold stf
    split
    · rename_i h5
      rw [ust, if_pos (by omega), h5, ust, if_neg (by omega), if_pos rfl, ih 0 (by omega)]
      rfl
    · rw [ust, if_pos (by omega), ih _ (by omega)]
      rfl

theorem stf_ust : ∀ (l : List Int) (c : Nat) (x : List Int), c ≤ 5 → ust c l = some x → (if c = 5 then 0 :: stf 0 x else stf c x) = l := by
  intro l
  induction l with
  | nil =>
    intro c x hc h
    unfold ust at h
    split at h
    · injection h with h; subst h; rw [if_neg (by omega), stf]
    · cases h
  | cons b l ih =>
    intro c x hc h
    unfold ust at h
    split at h
    · rename_i h5
      cases hu : ust (cnt c b) l with
      | none => rw [hu] at h; cases h
      | some y =>
        rw [hu] at h
        injection h with h
        subst h
        have := ih (cnt c b) y (cnt_le (by omega)) hu
        rw [if_neg (by omega), stf]
        split at this
        · rename_i e; rw [if_pos e, this]
        · rename_i e; rw [if_neg e, this]
    · split at h
      · rename_i h0
        have := ih 0 x (by omega) h
        rw [if_neg (by omega)] at this
        rw [if_pos (by omega), this, h0]
      · cases h

theorem rmv_ust : ∀ (l : List Int) (c : Nat) (x : List Int), ust c l = some x → rmv c l = x := by
  intro l
  induction l with
  | nil =>
    intro c x h
    unfold ust at h
    split at h
    · exact Option.some.inj h
    · cases h
  | cons b l ih =>
    intro c x h
    unfold ust at h
    unfold rmv
    split at h
    · rename_i h5
      rw [if_pos h5]
      cases hu : ust (cnt c b) l with
      | none => rw [hu] at h; cases h
      | some y => rw [hu] at h; injection h with h; subst h; rw [ih _ _ hu]
    · rename_i h5
      rw [if_neg h5]
      split at h
      · exact ih 0 x h
      · cases h

/-- What is unstuffed, by stuffing anew. -/
theorem ust_eq (l : List Int) : ust 0 l = if stf 0 (rmv 0 l) = l then some (rmv 0 l) else none := by
  cases hu : ust 0 l with
  | some x =>
    have h1 := rmv_ust l 0 x hu
    have h2 := stf_ust l 0 x (by omega) hu
    rw [if_neg (by omega)] at h2
    rw [h1, if_pos h2]
  | none =>
    rw [if_neg]
    intro h
    have := ust_stf (rmv 0 l) 0 (by omega)
    rw [h, hu] at this
    cases this

theorem stf_inj {a b : List Int} (h : stf 0 a = stf 0 b) : a = b := by
  have h1 := ust_stf a 0 (by omega)
  rw [h, ust_stf b 0 (by omega)] at h1
  injection h1 with h1
  exact h1.symm

theorem stf_len : ∀ (l : List Int) (c : Nat), c ≤ 4 → l.length ≤ (stf c l).length ∧ 5 * (stf c l).length ≤ 6 * l.length + c := by
  intro l
  induction l with
  | nil => intro c hc; simp [stf]
  | cons b l ih =>
    intro c hc
    have h1 := @cnt_le c b hc
    unfold stf
    split
    · rename_i h5
      have := ih 0 (by omega)
      have h4 : c = 4 := by unfold cnt at h5; split at h5 <;> omega
      simp only [List.length_cons]
      omega
    · rename_i h5
      have := ih (cnt c b) (by omega)
      have h4 : cnt c b ≤ c + 1 := by unfold cnt; split <;> omega
      simp only [List.length_cons]
      omega

theorem stf_bits : ∀ (l : List Int) (c : Nat), binl l = true → binl (stf c l) = true := by
  intro l
  induction l with
  | nil => intro c _; rfl
  | cons b l ih =>
    intro c h
    simp only [binl, List.all_cons, Bool.and_eq_true] at h
    unfold stf
    split
    · have := ih 0 h.2
      simp only [binl, List.all_cons, Bool.and_eq_true] at this ⊢
      exact ⟨h.1, by simp, this⟩
    · have := ih (cnt c b) h.2
      simp only [binl, List.all_cons, Bool.and_eq_true] at this ⊢
      exact ⟨h.1, this⟩

/-- Nowhere six on end that are not 0, behind c. -/
def ok6 : Nat → List Int → Prop
  | _, [] => True
  | c, b :: l => cnt c b ≠ 6 ∧ ok6 (cnt c b) l

theorem ok6_mono : ∀ (l : List Int) (c d : Nat), c ≤ d → d ≤ 5 → ok6 d l → ok6 c l := by
  intro l
  induction l with
  | nil => intros; trivial
  | cons b l ih =>
    intro c d h hd hk
    unfold ok6 at hk ⊢
    unfold cnt at hk ⊢
    split
    · rename_i h0; simp only [h0, if_true] at hk; exact hk
    · rename_i h0
      simp only [h0, if_false] at hk
      exact ⟨by omega, ih (c + 1) (d + 1) (by omega) (by omega) hk.2⟩

theorem ok6_stf : ∀ (l : List Int) (c : Nat), c ≤ 4 → ok6 c (stf c l) := by
  intro l
  induction l with
  | nil => intros; trivial
  | cons b l ih =>
    intro c hc
    have h1 := @cnt_le c b hc
    unfold stf
    split
    · rename_i h5
      refine ⟨by omega, ?_⟩
      unfold ok6
      have e : cnt (cnt c b) 0 = 0 := by simp [cnt]
      rw [e]
      exact ⟨by omega, ih 0 (by omega)⟩
    · exact ⟨by omega, ih _ (by omega)⟩

theorem ok6_win : ∀ (l : List Int) (c j : Nat), c ≤ 5 → ok6 c l → (∀ k : Nat, k < 6 → l[j + k]?.getD 0 ≠ 0) → False := by
  intro l
  induction l with
  | nil => intro c j _ _ h; exact h 0 (by omega) (by simp)
  | cons b l ih =>
    intro c j hc hk h
    unfold ok6 at hk
    cases j with
    | succ j =>
      have hc' : cnt c b ≤ 5 := by
        have := hk.1
        unfold cnt at this ⊢
        split <;> simp_all <;> omega
      exact ih _ j hc' hk.2 (fun k hk6 => by
        have := h k hk6
        rwa [show j + 1 + k = (j + k) + 1 by omega, List.getElem?_cons_succ] at this)
    | zero =>
      have g : ∀ (m : List Int) (d n : Nat), d ≤ 5 → 6 ≤ d + n → ok6 d m → (∀ k : Nat, k < n → m[k]?.getD 0 ≠ 0) → False := by
        intro m
        induction m with
        | nil =>
          intro d n hd hn _ hh
          exact hh 0 (by omega) (by simp)
        | cons a m ihm =>
          intro d n hd hn hok hh
          unfold ok6 at hok
          have ha : a ≠ 0 := by simpa using hh 0 (by omega)
          have e : cnt d a = d + 1 := by simp [cnt, ha]
          rw [e] at hok
          have := hok.1
          exact ihm (d + 1) (n - 1) (by omega) (by omega) hok.2 (fun k hk => by simpa using hh (k + 1) (by omega))
      exact g (b :: l) c 6 hc (by omega) hk (fun k hk6 => by simpa using h k hk6)

/-- The flag. -/
def flg : List Int := [0, 1, 1, 1, 1, 1, 1, 0]
def flagAt (l : List Int) (j : Nat) : Bool := (l.drop j).take 8 == flg
theorem flagAt_len {l : List Int} {j : Nat} (h : flagAt l j = true) : j + 8 ≤ l.length := by
  have := congrArg List.length (beq_iff_eq.1 h)
  rw [List.length_take, List.length_drop] at this
  simp [flg] at this
  omega
theorem flagAt_drop (l : List Int) (b j : Nat) : flagAt (l.drop b) j = flagAt l (b + j) := by
  unfold flagAt
  rw [List.drop_drop]

/-- Where the first flag is. -/
def cutAt : List Int → Option Nat
  | [] => none
  | b :: l => if flagAt (b :: l) 0 = true then some 0 else (cutAt l).map (· + 1)

theorem flagAt_succ (b : Int) (l : List Int) (j : Nat) : flagAt (b :: l) (j + 1) = flagAt l j := rfl
theorem flagAt_nil (j : Nat) : flagAt [] j = false := by simp [flagAt, flg]

theorem cut_some : ∀ (l : List Int) (i : Nat), flagAt l i = true → (∀ j : Nat, j < i → flagAt l j = false) → cutAt l = some i := by
  intro l
  induction l with
  | nil => intro i h _; rw [flagAt_nil] at h; cases h
  | cons b l ih =>
    intro i h hb
    unfold cutAt
    cases i with
    | zero => rw [if_pos h]
    | succ i =>
      rw [if_neg (by rw [hb 0 (by omega)]; simp), ih i (by rwa [flagAt_succ] at h) (fun j hj => by have := hb (j + 1) (by omega); rwa [flagAt_succ] at this)]
      rfl
theorem cut_none : ∀ (l : List Int), (∀ j : Nat, j + 8 ≤ l.length → flagAt l j = false) → cutAt l = none := by
  intro l
  induction l with
  | nil => intro _; rfl
  | cons b l ih =>
    intro h
    have hz : ∀ j : Nat, flagAt (b :: l) j = false := fun j => by
      cases hf : flagAt (b :: l) j with
      | false => rfl
      | true => rw [h j (flagAt_len hf)] at hf; cases hf
    unfold cutAt
    rw [if_neg (by rw [hz]; simp), ih (fun j hj => by have := hz (j + 1); rwa [flagAt_succ] at this)]
    rfl
theorem cut_lt : ∀ {l : List Int} {i : Nat}, cutAt l = some i → i + 8 ≤ l.length := by
  intro l
  induction l with
  | nil => intro i h; cases h
  | cons b l ih =>
    intro i h
    unfold cutAt at h
    split at h
    · rename_i hf; injection h with h; subst h; exact flagAt_len hf
    · cases hc : cutAt l with
      | none => rw [hc] at h; cases h
      | some k =>
        rw [hc] at h
        have h : k + 1 = i := Option.some.inj h
        have := ih hc
        simp only [List.length_cons]
        omega

/-- What a piece between flags gives. -/
def piece (l : List Int) : List (List Int) :=
  match ust 0 l with
  | some x => if 0 < l.length then [x] else []
  | none => []
/-- The frames behind a flag. -/
def fr (l : List Int) : List (List Int) :=
  match h : cutAt l with
  | none => []
  | some i => piece (l.take i) ++ fr (l.drop (i + 8))
  termination_by l.length
  decreasing_by
  have := cut_lt h
  rw [List.length_drop]
  omega
theorem fr_none {l : List Int} (h : cutAt l = none) : fr l = [] := by
  rw [fr]
  split
  · rfl
  · rename_i i hi; rw [h] at hi; cases hi
theorem fr_some {l : List Int} {i : Nat} (h : cutAt l = some i) : fr l = piece (l.take i) ++ fr (l.drop (i + 8)) := by
  rw [fr]
  split
  · rename_i hi; rw [h] at hi; cases hi
  · rename_i k hi; rw [h] at hi; injection hi with hi; subst hi; rfl
/-- The frames. -/
def frames (l : List Int) : List (List Int) :=
  match cutAt l with
  | none => []
  | some i => fr (l.drop (i + 8))

/-- Rows, each stuffed, with a flag behind. -/
def framed : List (List Int) → List Int
  | [] => []
  | r :: rs => stf 0 r ++ (flg ++ framed rs)

theorem getD_append_left {a b : List Int} {j : Nat} (h : j < a.length) : (a ++ b)[j]?.getD 0 = a[j]?.getD 0 := by rw [List.getElem?_append_left h]
theorem getD_append_right {a b : List Int} {j : Nat} (h : a.length ≤ j) : (a ++ b)[j]?.getD 0 = b[j - a.length]?.getD 0 := by rw [List.getElem?_append_right h]

theorem flagAt_get {l : List Int} {j : Nat} (h : flagAt l j = true) (k : Nat) (hk : k < 8) : l[j + k]?.getD 0 = flg[k]?.getD 0 := by
  have e := beq_iff_eq.1 h
  rw [← e, List.getElem?_take, if_pos hk, List.getElem?_drop]

theorem cut_stf (r : List Int) (m : List Int) : cutAt (stf 0 r ++ (flg ++ m)) = some (stf 0 r).length := by
  refine cut_some _ _ ?_ (fun j hj => ?_)
  · unfold flagAt
    rw [List.drop_left]
    rfl
  · cases hf : flagAt (stf 0 r ++ (flg ++ m)) j with
    | false => rfl
    | true =>
      exfalso
      have ones : ∀ k : Nat, k < 6 → (stf 0 r ++ (flg ++ m))[j + 1 + k]?.getD 0 ≠ 0 := fun k hk => by
        have := flagAt_get hf (k + 1) (by omega)
        rw [show j + 1 + k = j + (k + 1) by omega, this]
        rcases k with _|_|_|_|_|_|k <;> simp [flg] <;> omega
      by_cases hw : j + 6 < (stf 0 r).length
      · exact ok6_win _ 0 (j + 1) (by omega) (ok6_stf r 0 (by omega)) (fun k hk => by
          rw [← getD_append_left (b := flg ++ m) (by omega)]; exact ones k hk)
      · have := ones ((stf 0 r).length - (j + 1)) (by omega)
        rw [getD_append_right (by omega)] at this
        apply this
        rw [show j + 1 + ((stf 0 r).length - (j + 1)) - (stf 0 r).length = 0 by omega]
        rfl

theorem fr_framed : ∀ rs : List (List Int), fr (framed rs) = rs.filter (fun r => decide (0 < r.length)) := by
  intro rs
  induction rs with
  | nil => exact fr_none rfl
  | cons r rs ih =>
    unfold framed
    rw [fr_some (cut_stf r (framed rs)), List.take_left, ← List.drop_drop, List.drop_left]
    have e8 : (flg ++ framed rs).drop 8 = framed rs := rfl
    rw [e8, ih]
    unfold piece
    rw [ust_stf r 0 (by omega)]
    have hl := stf_len r 0 (by omega)
    by_cases h0 : 0 < r.length
    · rw [List.filter_cons_of_pos (by simpa using h0)]
      simp only
      rw [if_pos (by omega)]
      rfl
    · rw [List.filter_cons_of_neg (by simpa using h0)]
      simp only
      rw [if_neg (by omega)]
      rfl
theorem frames_framed (rs : List (List Int)) : frames (flg ++ framed rs) = rs.filter (fun r => decide (0 < r.length)) := by
  unfold frames
  have h : cutAt (flg ++ framed rs) = some 0 := cut_some _ _ rfl (fun j hj => absurd hj (Nat.not_lt_zero _))
  rw [h]
  show fr ((flg ++ framed rs).drop 8) = _
  rw [show (flg ++ framed rs).drop 8 = framed rs from rfl, fr_framed]
theorem framed_snoc (rs : List (List Int)) (r : List Int) : framed (rs ++ [r]) = framed rs ++ (stf 0 r ++ flg) := by
  induction rs with
  | nil => simp [framed]
  | cons a rs ih => simp [framed, ih, List.append_assoc]
theorem framed_bits : ∀ rs : List (List Int), (∀ r ∈ rs, binl r = true) → binl (framed rs) = true := by
  intro rs
  induction rs with
  | nil => intro _; rfl
  | cons r rs ih =>
    intro h
    have h1 := stf_bits r 0 (h r (by simp))
    have h2 := ih (fun x hx => h x (by simp [hx]))
    unfold framed
    unfold binl at *
    rw [List.all_append, List.all_append, h1, h2]
    rfl
end Go.Proofs.Ytcleanjacijfoaa.StuffMath
