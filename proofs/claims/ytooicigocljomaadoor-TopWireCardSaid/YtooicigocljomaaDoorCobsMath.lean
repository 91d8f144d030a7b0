/- The mathematics of consistent overhead byte stuffing. No statement is proved here. -/
import Derived.Test.YtooicigocljomaaDoorKit
namespace Go.Proofs.YtooicigocljomaaDoor.CobsMath
set_option linter.unusedVariables false
set_option maxRecDepth 20000

/-- How many numbers stand ahead of the first 0. -/
def run : List Int → Nat
  | [] => 0
  | x :: l => if x = 0 then 0 else run l + 1
theorem run_le (l : List Int) : run l ≤ l.length := by
  induction l with
  | nil => simp [run]
  | cons x l ih => rw [run, List.length_cons]; split <;> omega
theorem run_get {l : List Int} {k : Nat} (h : k < run l) : l[k]?.getD 0 ≠ 0 := by
  induction l generalizing k with
  | nil => simp [run] at h
  | cons x l ih =>
    rw [run] at h
    split at h
    · omega
    · rename_i hx
      cases k with
      | zero => simpa using hx
      | succ k => simpa using ih (k := k) (by omega)
theorem run_at {l : List Int} (h : run l < l.length) : l[run l]?.getD 0 = 0 := by
  induction l with
  | nil => simp at h
  | cons x l ih =>
    rw [run] at h ⊢
    split
    · rename_i hx; simpa using hx
    · rename_i hx
      rw [if_neg hx, List.length_cons] at h
      simpa using ih (by omega)
theorem run_of {l : List Int} {k : Nat} (hk : k ≤ l.length) (h : ∀ j : Nat, j < k → l[j]?.getD 0 ≠ 0) (h0 : k < l.length → l[k]?.getD 0 = 0) : run l = k := by
  have h1 := run_le l
  rcases Nat.lt_trichotomy (run l) k with hlt | he | hgt
  · exact absurd (run_at (by omega)) (h _ hlt)
  · exact he
  · exact absurd (h0 (by omega)) (run_get hgt)
theorem run_all {l : List Int} (h : ∀ x ∈ l, x ≠ 0) : run l = l.length := by
  induction l with
  | nil => rfl
  | cons x l ih => rw [run, if_neg (h x (by simp)), ih (fun y hy => h y (by simp [hy])), List.length_cons]
theorem all_run {l : List Int} (h : run l = l.length) : ∀ x ∈ l, x ≠ 0 := by
  induction l with
  | nil => simp
  | cons x l ih =>
    rw [run, List.length_cons] at h
    split at h
    · omega
    · rename_i hx
      intro y hy
      rcases List.mem_cons.1 hy with rfl | hy
      · exact hx
      · exact ih (by omega) y hy
theorem run_append (l m : List Int) : run (l ++ m) = if run l < l.length then run l else l.length + run m := by
  induction l with
  | nil => simp [run]
  | cons x l ih =>
    rw [List.cons_append, run, run, List.length_cons]
    by_cases hx : x = 0
    · rw [if_pos hx, if_pos hx, if_pos (by omega)]
    · rw [if_neg hx, if_neg hx, ih]
      by_cases h : run l < l.length
      · rw [if_pos h, if_pos (by omega)]
      · rw [if_neg h, if_neg (by omega)]; omega
theorem run_take_le (l : List Int) (k : Nat) (h : k ≤ run l) : ∀ x ∈ l.take k, x ≠ 0 := by
  have hl := run_le l
  intro x hx
  obtain ⟨j, hj, rfl⟩ := List.getElem_of_mem hx
  rw [List.length_take] at hj
  have := run_get (l := l) (k := j) (by omega)
  rw [List.getElem?_eq_getElem (by omega)] at this
  rw [List.getElem_take]
  exact this

/-- The number of bytes of the first block, and what follows it. -/
def cut (l : List Int) : Nat := min (run l) 254
theorem cut_le (l : List Int) : cut l ≤ 254 := Nat.min_le_right _ _
theorem cut_len (l : List Int) : cut l ≤ l.length := Nat.le_trans (Nat.min_le_left _ _) (run_le l)
def nxt (l : List Int) : List Int := l.drop (if cut l < 254 then cut l + 1 else 254)
theorem nxt_lt {l : List Int} (h : ¬ l.length ≤ cut l) : (nxt l).length < l.length := by
  unfold nxt
  rw [List.length_drop]
  split <;> omega
theorem nxt_len {l : List Int} (h : ¬ l.length ≤ cut l) : (nxt l).length = l.length - (if cut l < 254 then cut l + 1 else 254) := by
  unfold nxt
  rw [List.length_drop]

/-- What is written of some bytes. -/
def enc (l : List Int) : List Int :=
  if h : l.length ≤ cut l then ((cut l + 1 : Nat) : Int) :: l.take (cut l) else ((cut l + 1 : Nat) : Int) :: l.take (cut l) ++ enc (nxt l)
termination_by l.length
decreasing_by exact nxt_lt h
theorem enc_end {l : List Int} (h : l.length ≤ cut l) : enc l = ((cut l + 1 : Nat) : Int) :: l.take (cut l) := by rw [enc, dif_pos h]
theorem enc_more {l : List Int} (h : ¬ l.length ≤ cut l) : enc l = ((cut l + 1 : Nat) : Int) :: l.take (cut l) ++ enc (nxt l) := by rw [enc, dif_neg h]

theorem take_cut_len (l : List Int) : (l.take (cut l)).length = cut l := by rw [List.length_take]; have := cut_len l; omega

theorem enc_len (l : List Int) : l.length < (enc l).length ∧ (enc l).length ≤ l.length + 1 + l.length / 254 := by
  induction hn : l.length using Nat.strongRecOn generalizing l with
  | ind n ih =>
    subst hn
    have h2 := cut_le l
    have h3 := cut_len l
    by_cases h : l.length ≤ cut l
    · rw [enc_end h, List.length_cons, take_cut_len]; omega
    · have h4 := ih _ (nxt_lt h) (nxt l) rfl
      rw [enc_more h, List.length_append, List.length_cons, take_cut_len]
      rw [nxt_len h] at h4
      split at h4 <;> omega

/-- Every number is a byte. -/
def byt (l : List Int) : Bool := l.all fun x => decide (0 ≤ x) && decide (x ≤ 255)
theorem byt_iff {l : List Int} : byt l = true ↔ ∀ x ∈ l, 0 ≤ x ∧ x ≤ 255 := by simp [byt]
theorem byt_get {l : List Int} (h : byt l = true) (k : Nat) : 0 ≤ l[k]?.getD 0 ∧ l[k]?.getD 0 ≤ 255 := by
  by_cases hk : k < l.length
  · rw [List.getElem?_eq_getElem hk]; exact byt_iff.1 h _ (List.getElem_mem hk)
  · rw [List.getElem?_eq_none (by omega)]; simp
theorem byt_of {l : List Int} (h : ∀ k : Nat, k < l.length → 0 ≤ l[k]?.getD 0 ∧ l[k]?.getD 0 ≤ 255) : byt l = true := by
  refine byt_iff.2 fun x hx => ?_
  obtain ⟨k, hk, rfl⟩ := List.getElem_of_mem hx
  have := h k hk
  rwa [List.getElem?_eq_getElem hk] at this
theorem byt_false {l : List Int} {k : Nat} (h : ¬ (0 ≤ l[k]?.getD 0 ∧ l[k]?.getD 0 ≤ 255)) : byt l = false := by
  cases hb : byt l with
  | false => rfl
  | true => exact absurd (byt_get hb k) h
theorem byt_append (l m : List Int) : byt (l ++ m) = (byt l && byt m) := by simp [byt]
theorem byt_take {l : List Int} (h : byt l = true) (k : Nat) : byt (l.take k) = true := byt_iff.2 fun x hx => byt_iff.1 h x (List.mem_of_mem_take hx)
theorem byt_drop {l : List Int} (h : byt l = true) (k : Nat) : byt (l.drop k) = true := byt_iff.2 fun x hx => byt_iff.1 h x (List.mem_of_mem_drop hx)

theorem enc_in (l : List Int) (hb : byt l = true) : ∀ x ∈ enc l, 1 ≤ x ∧ x ≤ 255 := by
  induction hn : l.length using Nat.strongRecOn generalizing l with
  | ind n ih =>
    subst hn
    have h2 := cut_le l
    have hfirst : ∀ x ∈ ((cut l + 1 : Nat) : Int) :: l.take (cut l), 1 ≤ x ∧ x ≤ 255 := by
      intro x hx
      rcases List.mem_cons.1 hx with rfl | hx
      · omega
      · have h0 := run_take_le l (cut l) (Nat.min_le_left _ _) x hx
        have h1 := byt_iff.1 hb x (List.mem_of_mem_take hx)
        omega
    by_cases h : l.length ≤ cut l
    · rw [enc_end h]; exact hfirst
    · rw [enc_more h]
      intro x hx
      rcases List.mem_append.1 hx with hx | hx
      · exact hfirst x hx
      · exact ih _ (nxt_lt h) (nxt l) (byt_drop hb _) rfl x hx
theorem enc_byt {l : List Int} (hb : byt l = true) : byt (enc l) = true := byt_iff.2 fun x hx => by have := enc_in l hb x hx; omega
theorem enc_ne (l : List Int) : enc l ≠ [] := fun h => by have := (enc_len l).1; rw [h] at this; simp at this

/-- What a block brings besides its bytes: a 0, if it is not full and something follows. -/
def gap (n rest : Nat) : List Int := if n ≠ 255 ∧ 0 < rest then [0] else []
/-- What is read. -/
def dec : List Int → Option (List Int)
  | [] => some []
  | x :: m =>
    if h : x.toNat = 0 ∨ m.length + 1 < x.toNat then none
    else if run (m.take (x.toNat - 1)) < (m.take (x.toNat - 1)).length then none
    else (dec (m.drop (x.toNat - 1))).map ((m.take (x.toNat - 1) ++ gap x.toNat (m.length + 1 - x.toNat)) ++ ·)
termination_by l => l.length
decreasing_by simp; omega
theorem dec_nil : dec [] = some [] := by rw [dec]
theorem dec_bad {x : Int} {m : List Int} (h : x.toNat = 0 ∨ m.length + 1 < x.toNat) : dec (x :: m) = none := by rw [dec, dif_pos h]
theorem dec_nought {x : Int} {m : List Int} (h : ¬ (x.toNat = 0 ∨ m.length + 1 < x.toNat)) (h2 : run (m.take (x.toNat - 1)) < (m.take (x.toNat - 1)).length) : dec (x :: m) = none := by rw [dec, dif_neg h, if_pos h2]
theorem dec_more {x : Int} {m : List Int} (h : ¬ (x.toNat = 0 ∨ m.length + 1 < x.toNat)) (h2 : ¬ run (m.take (x.toNat - 1)) < (m.take (x.toNat - 1)).length) :
    dec (x :: m) = (dec (m.drop (x.toNat - 1))).map ((m.take (x.toNat - 1) ++ gap x.toNat (m.length + 1 - x.toNat)) ++ ·) := by rw [dec, dif_neg h, if_neg h2]

theorem nxt_whole {l : List Int} (h : ¬ l.length ≤ cut l) : l.take (cut l) ++ gap (cut l + 1) 1 ++ nxt l = l := by
  have h2 := cut_le l
  unfold nxt gap
  by_cases h3 : cut l < 254
  · rw [if_pos h3, if_pos (by omega)]
    have hr : cut l = run l := by unfold cut at *; omega
    have h0 := run_at (l := l) (by omega)
    rw [← hr, List.getElem?_eq_getElem (by omega)] at h0
    have h0 : l[cut l] = 0 := h0
    have hd : l.drop (cut l) = 0 :: l.drop (cut l + 1) := by rw [List.drop_eq_getElem_cons (by omega), h0]
    rw [List.append_assoc, List.singleton_append, ← hd, List.take_append_drop]
  · rw [if_neg h3, if_neg (by omega)]
    have : cut l = 254 := by omega
    rw [this, List.append_nil, List.take_append_drop]

theorem dec_enc (l : List Int) : dec (enc l) = some l := by
  induction hn : l.length using Nat.strongRecOn generalizing l with
  | ind n ih =>
    subst hn
    have h2 := cut_le l
    have hlen := take_cut_len l
    have hrun := run_all (run_take_le l (cut l) (Nat.min_le_left _ _))
    have htn : ((cut l + 1 : Nat) : Int).toNat = cut l + 1 := by simp
    by_cases h : l.length ≤ cut l
    · have ht : (l.take (cut l)).take (cut l + 1 - 1) = l.take (cut l) := List.take_of_length_le (by omega)
      have hd : (l.take (cut l)).drop (cut l + 1 - 1) = [] := List.drop_eq_nil_of_le (by omega)
      rw [enc_end h, dec_more (by rw [htn]; omega) (by rw [htn, ht]; omega), htn, ht, hd, dec_nil, hlen]
      have : gap (cut l + 1) (cut l + 1 - (cut l + 1)) = [] := by unfold gap; rw [if_neg (by omega)]
      rw [this, Option.map_some, List.append_nil, List.append_nil, List.take_of_length_le h]
    · have ht : (l.take (cut l) ++ enc (nxt l)).take (cut l + 1 - 1) = l.take (cut l) := by rw [List.take_append_of_le_length (by omega)]; exact List.take_of_length_le (by omega)
      have hd : (l.take (cut l) ++ enc (nxt l)).drop (cut l + 1 - 1) = enc (nxt l) := by rw [List.drop_append_of_le_length (by omega), List.drop_eq_nil_of_le (by omega), List.nil_append]
      have hel := (enc_len (nxt l)).1
      have hsum : (l.take (cut l) ++ enc (nxt l)).length = cut l + (enc (nxt l)).length := by rw [List.length_append, hlen]
      rw [enc_more h, List.cons_append, dec_more (by rw [htn]; omega) (by rw [htn, ht]; omega), htn, ht, hd, ih _ (nxt_lt h) (nxt l) rfl, Option.map_some]
      have hg : gap (cut l + 1) ((l.take (cut l) ++ enc (nxt l)).length + 1 - (cut l + 1)) = gap (cut l + 1) 1 := by
        unfold gap
        rw [hsum]
        by_cases h5 : cut l + 1 ≠ 255
        · rw [if_pos ⟨h5, by omega⟩, if_pos ⟨h5, by omega⟩]
        · rw [if_neg (fun x => h5 x.1), if_neg (fun x => h5 x.1)]
      rw [hg, nxt_whole h]

/-- How many numbers stand behind the last 0. -/
def tl (l : List Int) : Nat := run l.reverse
theorem cut_join (a b : List Int) : run (a ++ 0 :: b) = run a := by
  rw [run_append]
  have := run_le a
  split
  · rfl
  · rw [run, if_pos rfl]; omega
theorem tl_nought (p a : List Int) : tl (p ++ 0 :: a) = tl a := by
  unfold tl
  rw [List.reverse_append, List.reverse_cons, List.append_assoc, run_append]
  have h := run_le a.reverse
  split
  · rfl
  · rw [List.singleton_append, run, if_pos rfl]; omega
theorem tl_full (p a : List Int) (hp : ∀ x ∈ p, x ≠ 0) : tl (p ++ a) = tl a ∨ tl (p ++ a) = p.length + tl a ∧ tl a = a.length := by
  unfold tl
  rw [List.reverse_append, run_append]
  have h := run_le a.reverse
  split
  · exact .inl rfl
  · right
    rw [run_all (l := p.reverse) (fun x hx => hp x (by simpa using hx)), List.length_reverse, List.length_reverse]
    rw [List.length_reverse] at *
    omega
/-- What is put between the two: a block of none, if the last block of the one is full. -/
def mid (a : List Int) : List Int := if 0 < tl a ∧ tl a % 254 = 0 then [1] else []
theorem enc_nought (b : List Int) : enc (0 :: b) = 1 :: enc b := by
  have hc : cut (0 :: b) = 0 := by unfold cut; rw [run, if_pos rfl]; rfl
  rw [enc_more (by rw [hc]; simp), hc]
  have : nxt (0 :: b) = b := by unfold nxt; rw [hc]; rfl
  rw [this]; rfl
theorem enc_join (a b : List Int) : enc (a ++ 0 :: b) = enc a ++ mid a ++ enc b := by
  induction hn : a.length using Nat.strongRecOn generalizing a with
  | ind n ih =>
    subst hn
    have h2 := cut_le a
    have h3 := cut_len a
    have hc : cut (a ++ 0 :: b) = cut a := by unfold cut; rw [cut_join]
    have hbig : ¬ (a ++ 0 :: b).length ≤ cut (a ++ 0 :: b) := by rw [hc, List.length_append, List.length_cons]; omega
    have htk : (a ++ 0 :: b).take (cut a) = a.take (cut a) := List.take_append_of_le_length h3
    rw [enc_more hbig, hc, htk]
    by_cases h : a.length ≤ cut a
    · have he : cut a = a.length := by omega
      have hrun : run a = a.length := by
        have := run_le a
        unfold cut at he; omega
      have ht : tl a = a.length := by
        unfold tl
        rw [run_all, List.length_reverse]
        intro x hx
        exact all_run hrun x (by simpa using hx)
      rw [enc_end h]
      by_cases h4 : cut a < 254
      · have hm : mid a = [] := by unfold mid; rw [ht, if_neg (by omega)]
        have hnx : nxt (a ++ 0 :: b) = b := by
          unfold nxt
          rw [hc, if_pos h4, he, List.drop_append, List.drop_eq_nil_of_le (by omega), show a.length + 1 - a.length = 1 by omega]; rfl
        rw [hm, hnx, List.append_nil]
      · have hm : mid a = [1] := by unfold mid; rw [ht, if_pos (by omega)]
        have hnx : nxt (a ++ 0 :: b) = 0 :: b := by
          unfold nxt
          rw [hc, if_neg h4, List.drop_append, List.drop_eq_nil_of_le (by omega), show 254 - a.length = 0 by omega]; rfl
        rw [hm, hnx, enc_nought]; simp
    · have hnx : nxt (a ++ 0 :: b) = nxt a ++ 0 :: b := by
        unfold nxt
        rw [hc, List.drop_append_of_le_length (by split <;> omega)]
      have hmid : mid a = mid (nxt a) := by
        have hw := nxt_whole h
        unfold gap at hw
        by_cases h4 : cut a < 254
        · rw [if_pos (by omega), List.append_assoc, List.singleton_append] at hw
          have : tl a = tl (nxt a) := by rw [← tl_nought (a.take (cut a)) (nxt a), hw]
          unfold mid; rw [this]
        · rw [if_neg (by omega), List.append_nil] at hw
          have h5 := tl_full (a.take (cut a)) (nxt a) (run_take_le a (cut a) (Nat.min_le_left _ _))
          rw [hw, take_cut_len] at h5
          have h6 := nxt_len h
          rw [if_neg h4] at h6
          unfold mid
          rcases h5 with h5 | ⟨h5, h7⟩
          · rw [h5]
          · by_cases h8 : tl (nxt a) % 254 = 0
            · rw [if_pos (by omega), if_pos (by omega)]
            · rw [if_neg (by omega), if_neg (by omega)]
      rw [enc_more h, hnx, ih _ (nxt_lt h) (nxt a) rfl, hmid]
      simp
end Go.Proofs.YtooicigocljomaaDoor.CobsMath
