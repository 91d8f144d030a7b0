/- DrrFair's lists of counts and of sums, and its two slices in memory. No statement is proved here. -/
import Derived.Test.YtcdiejalplgclaaDrrLaw
import Derived.Test.YtcdiejalplgclaaOwnI
namespace Go.Proofs.Ytcdiejalplgclaa.Drr
open Go.ChangeShapes Go.WideShapes Go.ChangeAt Go.RowKit Go.Proofs.Ytcdiejalplgclaa.Kit Go.Proofs.Ytcdiejalplgclaa.App Go.Proofs.Ytcdiejalplgclaa.Err
set_option linter.unusedVariables false
set_option maxRecDepth 20000

def atL (n : Nat) (o : List Int) : List Int := (List.range n).map fun k : Nat => ((o.count (k : Int) : Nat) : Int)
def sumL (ls : List (List Int)) (n : Nat) (o : List Int) : List Int := (List.range n).map fun k => served ls o k
theorem map_set (n : Nat) (f : Nat → Int) (k : Nat) (hk : k < n) (x : Int) : ((List.range n).map f).set k x = (List.range n).map fun j => if j = k then x else f j := by
  refine List.ext_getElem? fun j => ?_
  rw [List.getElem?_set]
  by_cases e : k = j
  · subst e
    rw [if_pos rfl, if_pos (by simpa using hk)]
    simp [hk]
  · rw [if_neg e]
    by_cases hj : j < n
    · simp only [List.getElem?_map, List.getElem?_range hj, Option.map_some, if_neg (Ne.symm e)]
    · rw [List.getElem?_eq_none (by simpa using hj), List.getElem?_eq_none (by simpa using hj)]
theorem atL_len (n : Nat) (o : List Int) : (atL n o).length = n := by simp [atL]
theorem sumL_len (ls : List (List Int)) (n : Nat) (o : List Int) : (sumL ls n o).length = n := by simp [sumL]
theorem atL_get {n k : Nat} (o : List Int) (hk : k < n) : (atL n o)[k]?.getD 0 = ((o.count (k : Int) : Nat) : Int) := by simp [atL, hk]
theorem sumL_get {n k : Nat} (ls : List (List Int)) (o : List Int) (hk : k < n) : (sumL ls n o)[k]?.getD 0 = served ls o k := by simp [sumL, hk]
theorem atL_zero (n : Nat) : atL n [] = List.replicate n 0 := by
  refine List.ext_getElem? fun j => ?_
  by_cases hj : j < n
  · simp [atL, hj]
  · rw [List.getElem?_eq_none (by simpa [atL] using hj), List.getElem?_eq_none (by simpa using hj)]
theorem sumL_zero (ls : List (List Int)) (n : Nat) : sumL ls n [] = List.replicate n 0 := by
  refine List.ext_getElem? fun j => ?_
  by_cases hj : j < n
  · simp [sumL, hj, served, tot]
  · rw [List.getElem?_eq_none (by simpa [sumL] using hj), List.getElem?_eq_none (by simpa using hj)]
theorem count_one (o : List Int) (k j : Nat) : (o ++ [(k : Int)]).count (j : Int) = o.count (j : Int) + if j = k then 1 else 0 := by
  rw [List.count_append, List.count_cons, List.count_nil]
  by_cases e : j = k
  · subst e; simp
  · rw [if_neg e, if_neg (by simp; omega)]
theorem atL_set {n k : Nat} (o : List Int) (hk : k < n) : (atL n o).set k (((o.count (k : Int) : Nat) : Int) + 1) = atL n (o ++ [(k : Int)]) := by
  unfold atL
  rw [map_set n _ k hk]
  refine List.map_congr_left fun j _ => ?_
  show _ = (((o ++ [(k : Int)]).count (j : Int) : Nat) : Int)
  rw [count_one]
  by_cases e : j = k
  · subst e; rw [if_pos rfl, if_pos rfl]; simp
  · rw [if_neg e, if_neg e]; simp
theorem served_one {ls : List (List Int)} {o : List Int} {k : Nat} (h : o.count (k : Int) < (row ls k).length) (j : Nat) : served ls (o ++ [(k : Int)]) j = if j = k then served ls o k + (row ls k)[o.count (k : Int)]?.getD 0 else served ls o j := by
  unfold served
  rw [count_one]
  by_cases e : j = k
  · subst e; rw [if_pos rfl, if_pos rfl, tot_take_step h]
  · rw [if_neg e, if_neg e, Nat.add_zero]
theorem sumL_set {n k : Nat} {ls : List (List Int)} {o : List Int} (hk : k < n) (h : o.count (k : Int) < (row ls k).length) : (sumL ls n o).set k (served ls o k + (row ls k)[o.count (k : Int)]?.getD 0) = sumL ls n (o ++ [(k : Int)]) := by
  unfold sumL
  rw [map_set n _ k hk]
  refine List.map_congr_left fun j _ => ?_
  show _ = served ls (o ++ [(k : Int)]) j
  rw [served_one h]
theorem served_in {ls : List (List Int)} (hg : Good ls) (o : List Int) (k : Nat) : 0 ≤ served ls o k ∧ served ls o k ≤ 160 := by
  have h := hg.row k
  unfold served
  have h1 : ∀ x ∈ (row ls k).take (o.count (k : Int)), 1 ≤ x ∧ x ≤ 20 := fun x hx => h.2 x (List.mem_of_mem_take hx)
  have h2 := tot_nonneg (fun x hx => (h1 x hx).1)
  have h3 := tot_le (M := 20) (fun x hx => (h1 x hx).2)
  have h4 : ((row ls k).take (o.count (k : Int))).length ≤ 8 := Nat.le_trans (by rw [List.length_take]; omega) h.1
  omega

/-- The two slices of the law's own. -/
structure Two (w0 w : World) (G1 G2 n : Nat) (A S : List Int) : Prop where
  o1 : OwnI w G1 (.slice (some ⟨G1, 0, none⟩) n n) A
  o2 : OwnI w G2 (.slice (some ⟨G2, 0, none⟩) n n) S
  lo : w0.heap.size ≤ G1
  lt : G1 < G2
  bel : Below w0.heap.size w0 w
variable {w0 w w' : World} {G1 G2 n : Nat} {A S A' S' : List Int}
theorem Two.drewN (H : Two w0 w G1 G2 n A S) (m : Nat) : Two w0 (w.drewN m) G1 G2 n A S := ⟨H.o1, H.o2, H.lo, H.lt, bdrewN H.bel m⟩
theorem Two.drew (H : Two w0 w G1 G2 n A S) : Two w0 w.drew G1 G2 n A S := ⟨H.o1, H.o2, H.lo, H.lt, bdrewN H.bel 1⟩
theorem Two.set1 (H : Two w0 w G1 G2 n A S) (k : Nat) (x : Int) (hx : (Lit.int .i64 x).wf = true) : Two w0 (w.setCell ⟨G1, k, none⟩ (.int .i64 x)) G1 G2 n (A.set k x) S :=
  ⟨own_set H.o1 k x hx, H.o2.more (set_grown w G1 k _) (.inr (fun e => by injection e with e; have := H.lt; simp at e; omega)), H.lo, H.lt, gbelow H.bel (Nat.le_refl _) (set_grown w G1 k _) H.lo⟩
theorem Two.set2 (H : Two w0 w G1 G2 n A S) (k : Nat) (x : Int) (hx : (Lit.int .i64 x).wf = true) : Two w0 (w.setCell ⟨G2, k, none⟩ (.int .i64 x)) G1 G2 n A (S.set k x) :=
  ⟨H.o1.more (set_grown w G2 k _) (.inr (fun e => by injection e with e; have := H.lt; simp at e; omega)), own_set H.o2 k x hx, H.lo, H.lt, gbelow H.bel (Nat.le_refl _) (set_grown w G2 k _) (Nat.le_trans H.lo (Nat.le_of_lt H.lt))⟩
theorem wf_in {x : Int} (h : -1000 ≤ x ∧ x ≤ 1000) : (Lit.int .i64 x).wf = true := by
  simp [Lit.wf, IntKind.min, IntKind.max, IntKind.signed, IntKind.bits]; omega
end Go.Proofs.Ytcdiejalplgclaa.Drr
