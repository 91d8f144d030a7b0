/- An array in a block of its own, as a map over its places. General. No statement is proved here. -/
import Derived.Test.YtedhippamfioeaaDoorBlk
import Derived.Test.YtedhippamfioeaaDoorErr
namespace Go.Proofs.YtedhippamfioeaaDoor.App
open Go.ChangeShapes Go.WideShapes Go.ChangeAt Go.RowKit Go.Proofs.YtedhippamfioeaaDoor.Kit
set_option linter.unusedVariables false
set_option maxRecDepth 20000

/-- The places of an array of n. -/
def ar (n : Nat) (f : Nat → Value) : List Value := (List.range n).map f
theorem ar_get {n : Nat} (f : Nat → Value) {k : Nat} (hk : k < n) : (ar n f)[k]? = some (f k) := by simp [ar, hk]
theorem ar_set (n : Nat) (f : Nat → Value) (k : Nat) (v : Value) : (ar n f).set k v = ar n (fun j => if j = k then v else f j) := by
  refine List.ext_getElem? fun j => ?_
  rw [List.getElem?_set]
  by_cases e : k = j
  · subst e
    by_cases hk : k < n
    · simp [ar, hk]
    · simp [ar, hk]
  · rw [if_neg e]
    by_cases hj : j < n
    · simp [ar, hj, Ne.symm e]
    · simp [ar, hj]
theorem ar_congr {n : Nat} {f g : Nat → Value} (h : ∀ k, k < n → f k = g k) : ar n f = ar n g := List.map_congr_left fun j hj => h j (List.mem_range.1 hj)
end Go.Proofs.YtedhippamfioeaaDoor.App
