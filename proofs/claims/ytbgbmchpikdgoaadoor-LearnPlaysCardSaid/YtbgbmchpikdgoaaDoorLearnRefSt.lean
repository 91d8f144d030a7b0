/- Package learn, the document's answer: a pair of lists while it grows, in a block; what Find says. No statement is proved here. -/
import Derived.Test.YtbgbmchpikdgoaaDoorLearnMath
import Derived.Test.YtbgbmchpikdgoaaDoorStepApp
import Derived.Test.YtbgbmchpikdgoaaDoorKeep
import Derived.Test.YtbgbmchpikdgoaaDoorBlk
import Derived.Test.YtbgbmchpikdgoaaDoorApt
namespace Go.Proofs.YtbgbmchpikdgoaaDoor.Learn
open Go.ChangeShapes Go.WideShapes Go.ChangeAt Go.RowKit Go.Proofs.YtbgbmchpikdgoaaDoor.Kit Go.Proofs.YtbgbmchpikdgoaaDoor.App Go.Proofs.YtbgbmchpikdgoaaDoor.Err
set_option linter.unusedVariables false
set_option maxRecDepth 20000

/-- The document's place of an address. -/
def idx (l : List E) (a : Int) : Int :=
  match l with
  | [] => -1
  | e :: l => if e.1 = a then 0 else if idx l a = -1 then -1 else idx l a + 1
theorem idx_none {l : List E} {a : Int} (h : ∀ e ∈ l, e.1 ≠ a) : idx l a = -1 := by
  induction l with
  | nil => rfl
  | cons e l ih => rw [idx, if_neg (h e (by simp)), if_pos (ih (fun x hx => h x (by simp [hx])))]
theorem idx_at : ∀ {l : List E} {k : Nat} {x : E} {a : Int}, l[k]? = some x → x.1 = a → (∀ y ∈ l.take k, y.1 ≠ a) → idx l a = (k : Int)
  | [], k, x, a, h, _, _ => by simp at h
  | y :: l, 0, x, a, h, ha, _ => by
    have e : y = x := by simpa using h
    rw [e, idx, if_pos ha]; rfl
  | y :: l, k + 1, x, a, h, ha, hn => by
    have ih := idx_at (l := l) (k := k) (x := x) (a := a) (by simpa using h) ha (fun z hz => hn z (by rw [List.take_succ_cons]; exact List.mem_cons_of_mem _ hz))
    rw [idx, if_neg (hn y (by simp)), ih, if_neg (by omega)]
    omega
theorem idx_cases (l : List E) (a : Int) : (idx l a = -1 ∧ find l a = -1) ∨ ∃ (k : Nat) (x : E), idx l a = (k : Int) ∧ l[k]? = some x ∧ find l a = x.2 := by
  induction l with
  | nil => exact .inl ⟨rfl, rfl⟩
  | cons e l ih =>
    rw [idx, find]
    by_cases h : e.1 = a
    · rw [if_pos h, if_pos h]
      exact .inr ⟨0, e, rfl, rfl, rfl⟩
    · rw [if_neg h, if_neg h]
      rcases ih with ⟨h1, h2⟩ | ⟨k, x, h1, h2, h3⟩
      · rw [if_pos h1]; exact .inl ⟨rfl, h2⟩
      · rw [if_neg (by omega), h1]
        exact .inr ⟨k + 1, x, by omega, by simpa using h2, h3⟩
theorem fst_at {l : List E} {k : Nat} {x : E} (h : l[k]? = some x) : (l.map Prod.fst)[k]?.getD 0 = x.1 := by rw [List.getElem?_map, h]; rfl
theorem snd_at {l : List E} {k : Nat} {x : E} (h : l[k]? = some x) : (l.map Prod.snd)[k]?.getD 0 = x.2 := by rw [List.getElem?_map, h]; rfl
theorem lt_of_at {l : List E} {k : Nat} {x : E} (h : l[k]? = some x) : k < l.length := by
  rcases Nat.lt_or_ge k l.length with h1 | h1
  · exact h1
  · rw [List.getElem?_eq_none h1] at h; cases h
theorem take_at {l : List E} {k : Nat} {x : E} (h : l[k]? = some x) : l.take (k + 1) = l.take k ++ [x] := by rw [List.take_add_one, h]; rfl
theorem but_yes (l : List E) {x : E} {a : Int} (h : x.1 = a) : but (l ++ [x]) a = but l a := by simp [but, List.filter_append, h]
theorem but_not (l : List E) {x : E} {a : Int} (h : x.1 ≠ a) : but (l ++ [x]) a = but l a ++ [x] := by simp [but, List.filter_append, h]
theorem down_yes (l : List E) {x : E} {p : Int} (h : x.2 = p) : down (l ++ [x]) p = down l p := by simp [down, List.filter_append, h]
theorem down_not (l : List E) {x : E} {p : Int} (h : x.2 ≠ p) : down (l ++ [x]) p = down l p ++ [x] := by simp [down, List.filter_append, h]
/-- The document's list of ports, up to k: at says whether there is a place, y the port there. -/
def acc (no : Bool) (y port : Int) (k : Nat) : List Int := ((List.range k).map fun i : Nat => (i : Int)).filter fun p => p != port && (no || y == p)
theorem acc_yes {no : Bool} {y port : Int} {k : Nat} (h : ((k : Int) != port && (no || y == (k : Int))) = true) : acc no y port (k + 1) = acc no y port k ++ [(k : Int)] := by
  unfold acc
  rw [List.range_succ, List.map_append, List.filter_append, List.map_cons, List.map_nil, List.filter_cons, if_pos h, List.filter_nil]
theorem acc_no {no : Bool} {y port : Int} {k : Nat} (h : ((k : Int) != port && (no || y == (k : Int))) = false) : acc no y port (k + 1) = acc no y port k := by
  unfold acc
  rw [List.range_succ, List.map_append, List.filter_append, List.map_cons, List.map_nil, List.filter_cons, if_neg (by rw [h]; decide), List.filter_nil, List.append_nil]
theorem acc_len (no : Bool) (y port : Int) (k : Nat) : (acc no y port k).length ≤ k := by
  unfold acc
  refine Nat.le_trans (List.length_filter_le _ _) ?_
  simp
theorem acc_out {l : List E} (hok : Ok l) {t p : Int} (hp : isP p) : acc (decide (find l t = -1)) (find l t) p 4 = out l t p := by
  unfold out
  rcases find_rng hok t with h | ⟨_, h⟩
  · rw [h]
    rw [if_neg (by have := hp.1; omega), if_pos rfl]
    unfold acc others
    show ([0, 1, 2, 3] : List Int).filter _ = _
    congr 1
    funext q
    simp [bne]
  · generalize find l t = y at h
    obtain ⟨h1, h2⟩ := h
    obtain ⟨p1, p2⟩ := hp
    have hd : decide (y = -1) = false := decide_eq_false (by omega)
    rw [hd]
    rcases (show y = 0 ∨ y = 1 ∨ y = 2 ∨ y = 3 by omega) with rfl | rfl | rfl | rfl <;> rcases (show p = 0 ∨ p = 1 ∨ p = 2 ∨ p = 3 by omega) with rfl | rfl | rfl | rfl <;> decide

/-- Block g holds two lists of the call's own that grow; the blocks Z are as they were in w1. -/
structure Pr (Z : Nat → Prop) (w1 w : World) (g : Nat) (va vp : Value) (la lp : List Int) : Prop where
  blk : Blk 39 w g [va, vp]
  oa : OwnI w 0 va la
  op : OwnI w 0 vp lp
  apt : Apt va vp
  na : ∀ k, va.ownBlock = some k → k ≠ g ∧ ¬ Z k
  np : ∀ k, vp.ownBlock = some k → k ≠ g ∧ ¬ Z k
  zg : ¬ Z g
  zl : ∀ k, Z k → k < w.heap.size
  kp : Keep Z w1 w
variable {Z : Nat → Prop} {w1 w w' : World} {g : Nat} {va vp v' : Value} {la lp l' : List Int}
theorem own_no {v : Value} {row : Option Nat} (h : ∀ k, v.ownBlock = some k → row ≠ some k) : v.ownBlock = none ∨ v.ownBlock ≠ row := by
  cases hv : v.ownBlock with
  | none => exact .inl rfl
  | some k => exact .inr (fun e => h k hv e.symm)
theorem Pr.app1 (H : Pr Z w1 w g va vp la lp) (hg : w.grownBy w' va.ownBlock) (ho : OwnI w' 0 v' l') (hat : ∀ k, v'.ownBlock = some k → va.ownBlock = some k ∨ w.heap.size ≤ k) : Pr Z w1 (w'.setCell ⟨g, 0, none⟩ v') g v' vp l' lp := by
  have hb : ∀ k, v'.ownBlock = some k → k ≠ g ∧ ¬ Z k := fun k hk => by
    rcases hat k hk with h | h
    · exact H.na k h
    · have := H.blk.lt
      exact ⟨by omega, fun hz => by have := H.zl k hz; omega⟩
  have hsg := set_grown w' g 0 v'
  refine ⟨(H.blk.more hg (fun e => (H.na g e.symm).1 rfl)).set 0 v', ho.more hsg (own_no fun k hk e => (hb k hk).1 (by injection e with e; exact e.symm)), (H.op.more hg H.apt.symm.ne).more hsg (own_no fun k hk e => (H.np k hk).1 (by injection e with e; exact e.symm)), fun k h1 h2 => ?_, hb, H.np, H.zg, fun k hk => ?_, ?_⟩
  · rcases hat k h1 with h | h
    · exact H.apt k h h2
    · have := (H.op.lt k h2).2
      omega
  · exact Nat.lt_of_lt_of_le (H.zl k hk) (Nat.le_trans hg.size hsg.size)
  · exact (H.kp.trans (Keep.grown hg (fun k hk e => (H.na k e.symm).2 hk) H.zl)).trans (Keep.grown hsg (fun k hk e => H.zg (by injection e with e; exact e ▸ hk)) (fun k hk => Nat.lt_of_lt_of_le (H.zl k hk) hg.size))
theorem Pr.app2 (H : Pr Z w1 w g va vp la lp) (hg : w.grownBy w' vp.ownBlock) (ho : OwnI w' 0 v' l') (hat : ∀ k, v'.ownBlock = some k → vp.ownBlock = some k ∨ w.heap.size ≤ k) : Pr Z w1 (w'.setCell ⟨g, 1, none⟩ v') g va v' la l' := by
  have hb : ∀ k, v'.ownBlock = some k → k ≠ g ∧ ¬ Z k := fun k hk => by
    rcases hat k hk with h | h
    · exact H.np k h
    · have := H.blk.lt
      exact ⟨by omega, fun hz => by have := H.zl k hz; omega⟩
  have hsg := set_grown w' g 1 v'
  refine ⟨(H.blk.more hg (fun e => (H.np g e.symm).1 rfl)).set 1 v', (H.oa.more hg H.apt.ne).more hsg (own_no fun k hk e => (H.na k hk).1 (by injection e with e; exact e.symm)), ho.more hsg (own_no fun k hk e => (hb k hk).1 (by injection e with e; exact e.symm)), fun k h1 h2 => ?_, H.na, hb, H.zg, fun k hk => ?_, ?_⟩
  · rcases hat k h2 with h | h
    · exact H.apt k h1 h
    · have := (H.oa.lt k h1).2
      omega
  · exact Nat.lt_of_lt_of_le (H.zl k hk) (Nat.le_trans hg.size hsg.size)
  · exact (H.kp.trans (Keep.grown hg (fun k hk e => (H.np k e.symm).2 hk) H.zl)).trans (Keep.grown hsg (fun k hk e => H.zg (by injection e with e; exact e ▸ hk)) (fun k hk => Nat.lt_of_lt_of_le (H.zl k hk) hg.size))
theorem Pr.drewN (H : Pr Z w1 w g va vp la lp) (n : Nat) : Pr Z w1 (w.drewN n) g va vp la lp := ⟨H.blk, H.oa, H.op, H.apt, H.na, H.np, H.zg, H.zl, ⟨H.kp.os, H.kp.tape, H.kp.output, H.kp.size, H.kp.block⟩⟩
/-- A block of Z is as it was. -/
theorem Pr.zblk (H : Pr Z w1 w g va vp la lp) {T : TypeId} {b : Nat} {l : List Value} (h : Blk T w1 b l) (hz : Z b) : Blk T w b l := (H.kp.block b hz).trans h
theorem Pr.zints (H : Pr Z w1 w g va vp la lp) {p : Option Addr} {c : Nat} {l : List Int} (h : Ints w1 p c l) (hz : ∀ a, p = some a → Z a.block) : Ints w p c l := H.kp.ints h hz
end Go.Proofs.YtbgbmchpikdgoaaDoor.Learn
