/- Lists of counts and of sums. No statement is proved here. -/
import Derived.Test.YtmjkjkiogkmmpaaDoorDrrIn
import Derived.Test.YtmjkjkiogkmmpaaDoorDrrTwo
namespace Go.Proofs.YtmjkjkiogkmmpaaDoor.Drr
open Go.ChangeShapes Go.WideShapes Go.ChangeAt Go.RowKit Go.Proofs.YtmjkjkiogkmmpaaDoor.Kit Go.Proofs.YtmjkjkiogkmmpaaDoor.App Go.Proofs.YtmjkjkiogkmmpaaDoor.Err
set_option linter.unusedVariables false
set_option maxRecDepth 20000

def atL (n : Nat) (o : List Int) : List Int := (List.range n).map fun k : Nat => ((o.count (k : Int) : Nat) : Int)
def sumL (ls : List (List Int)) (n : Nat) (o : List Int) : List Int := (List.range n).map fun k => served ls o k
theorem atL_len (n : Nat) (o : List Int) : (atL n o).length = n := by simp [atL]
theorem sumL_len (ls : List (List Int)) (n : Nat) (o : List Int) : (sumL ls n o).length = n := by simp [sumL]
theorem atL_get {n k : Nat} (o : List Int) (hk : k < n) : (atL n o)[k]?.getD 0 = ((o.count (k : Int) : Nat) : Int) := by simp [atL, hk]
theorem sumL_get {n k : Nat} (ls : List (List Int)) (o : List Int) (hk : k < n) : (sumL ls n o)[k]?.getD 0 = served ls o k := by simp [sumL, hk]
theorem atL_zero (n : Nat) : atL n [] = List.replicate n 0 := by
  refine List.ext_getElem? fun j => ?_
  by_cases hj : j < n
  · simp [atL, hj]
  · rw [List.getElem?_eq_none (by simpa [atL] using hj), List.getElem?_eq_none (by simpa using hj)]
theorem sumL_zero (ls : List (List Int)) (n : Nat) : sumL ls n [] = List.replicate n 0 := by
  refine List.ext_getElem? fun j => ?_
  by_cases hj : j < n
  · simp [sumL, hj, served, tot]
  · rw [List.getElem?_eq_none (by simpa [sumL] using hj), List.getElem?_eq_none (by simpa using hj)]
theorem count_one (o : List Int) (k j : Nat) : (o ++ [(k : Int)]).count (j : Int) = o.count (j : Int) + if j = k then 1 else 0 := by
  rw [List.count_append, List.count_cons, List.count_nil]
  by_cases e : j = k
  · subst e; simp
  · rw [if_neg e, if_neg (by simp; omega)]
theorem atL_set {n k : Nat} (o : List Int) (hk : k < n) : (atL n o).set k (((o.count (k : Int) : Nat) : Int) + 1) = atL n (o ++ [(k : Int)]) := by
  unfold atL
  rw [map_set n _ k hk]
  refine List.map_congr_left fun j _ => ?_
  show _ = (((o ++ [(k : Int)]).count (j : Int) : Nat) : Int)
  rw [count_one]
  by_cases e : j = k
  · subst e; rw [if_pos rfl, if_pos rfl]; simp
  · rw [if_neg e, if_neg e]; simp
theorem served_one {ls : List (List Int)} {o : List Int} {k : Nat} (h : o.count (k : Int) < (row ls k).length) (j : Nat) : served ls (o ++ [(k : Int)]) j = if j = k then served ls o k + (row ls k)[o.count (k : Int)]?.getD 0 else served ls o j := by
  unfold served
  rw [count_one]
  by_cases e : j = k
  · subst e; rw [if_pos rfl, if_pos rfl, tot_take_step h]
  · rw [if_neg e, if_neg e, Nat.add_zero]
theorem sumL_set {n k : Nat} {ls : List (List Int)} {o : List Int} (hk : k < n) (h : o.count (k : Int) < (row ls k).length) : (sumL ls n o).set k (served ls o k + (row ls k)[o.count (k : Int)]?.getD 0) = sumL ls n (o ++ [(k : Int)]) := by
  unfold sumL
  rw [map_set n _ k hk]
  refine List.map_congr_left fun j _ => ?_
  show _ = served ls (o ++ [(k : Int)]) j
  rw [served_one h]
theorem served_in {ls : List (List Int)} (hg : Good ls) (o : List Int) (k : Nat) : 0 ≤ served ls o k ∧ served ls o k ≤ 160 := by
  have h := hg.row k
  unfold served
  have h1 : ∀ x ∈ (row ls k).take (o.count (k : Int)), 1 ≤ x ∧ x ≤ 20 := fun x hx => h.2 x (List.mem_of_mem_take hx)
  have h2 := tot_nonneg (fun x hx => (h1 x hx).1)
  have h3 := tot_le (M := 20) (fun x hx => (h1 x hx).2)
  have h4 : ((row ls k).take (o.count (k : Int))).length ≤ 8 := Nat.le_trans (by rw [List.length_take]; omega) h.1
  omega

end Go.Proofs.YtmjkjkiogkmmpaaDoor.Drr
