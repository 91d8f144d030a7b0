/- Two slices of numbers of the call's own, written in place. No statement is proved here. -/
import Derived.Test.YtckfobkkjiiheaaOwnI
namespace Go.Proofs.Ytckfobkkjiiheaa.Drr
open Go.ChangeShapes Go.WideShapes Go.ChangeAt Go.RowKit Go.Proofs.Ytckfobkkjiiheaa.Kit Go.Proofs.Ytckfobkkjiiheaa.App Go.Proofs.Ytckfobkkjiiheaa.Err
set_option linter.unusedVariables false
set_option maxRecDepth 20000

theorem map_set (n : Nat) (f : Nat → Int) (k : Nat) (hk : k < n) (x : Int) : ((List.range n).map f).set k x = (List.range n).map fun j => if j = k then x else f j := by
  refine List.ext_getElem? fun j => ?_
  rw [List.getElem?_set]
  by_cases e : k = j
  · subst e
    rw [if_pos rfl, if_pos (by simpa using hk)]
    simp [hk]
  · rw [if_neg e]
    by_cases hj : j < n
    · simp only [List.getElem?_map, List.getElem?_range hj, Option.map_some, if_neg (Ne.symm e)]
    · rw [List.getElem?_eq_none (by simpa using hj), List.getElem?_eq_none (by simpa using hj)]
/-- The two slices of the law's own. -/
structure Two (w0 w : World) (G1 G2 n : Nat) (A S : List Int) : Prop where
  o1 : OwnI w G1 (.slice (some ⟨G1, 0, none⟩) n n) A
  o2 : OwnI w G2 (.slice (some ⟨G2, 0, none⟩) n n) S
  lo : w0.heap.size ≤ G1
  lt : G1 < G2
  bel : Below w0.heap.size w0 w
variable {w0 w w' : World} {G1 G2 n : Nat} {A S A' S' : List Int}
theorem Two.drewN (H : Two w0 w G1 G2 n A S) (m : Nat) : Two w0 (w.drewN m) G1 G2 n A S := ⟨H.o1, H.o2, H.lo, H.lt, bdrewN H.bel m⟩
theorem Two.drew (H : Two w0 w G1 G2 n A S) : Two w0 w.drew G1 G2 n A S := ⟨H.o1, H.o2, H.lo, H.lt, bdrewN H.bel 1⟩
theorem Two.set1 (H : Two w0 w G1 G2 n A S) (k : Nat) (x : Int) (hx : (Lit.int .i64 x).wf = true) : Two w0 (w.setCell ⟨G1, k, none⟩ (.int .i64 x)) G1 G2 n (A.set k x) S :=
  ⟨own_set H.o1 k x hx, H.o2.more (set_grown w G1 k _) (.inr (fun e => by injection e with e; have := H.lt; simp at e; omega)), H.lo, H.lt, gbelow H.bel (Nat.le_refl _) (set_grown w G1 k _) H.lo⟩
theorem Two.set2 (H : Two w0 w G1 G2 n A S) (k : Nat) (x : Int) (hx : (Lit.int .i64 x).wf = true) : Two w0 (w.setCell ⟨G2, k, none⟩ (.int .i64 x)) G1 G2 n A (S.set k x) :=
  ⟨H.o1.more (set_grown w G2 k _) (.inr (fun e => by injection e with e; have := H.lt; simp at e; omega)), own_set H.o2 k x hx, H.lo, H.lt, gbelow H.bel (Nat.le_refl _) (set_grown w G2 k _) (Nat.le_trans H.lo (Nat.le_of_lt H.lt))⟩
theorem wf_in {x : Int} (h : -1000 ≤ x ∧ x ≤ 1000) : (Lit.int .i64 x).wf = true := by
  simp [Lit.wf, IntKind.min, IntKind.max, IntKind.signed, IntKind.bits]; omega
end Go.Proofs.Ytckfobkkjiiheaa.Drr
