/- Rows of numbers as maps over their places: their beginnings, one place set. Mathematics alone. No statement is proved here. -/
import Derived.Test.YtedhippamfioeaaDoorVecMath
namespace Go.Proofs.YtedhippamfioeaaDoor.Vector
set_option linter.unusedVariables false

theorem rw1_take {n : Nat} {f : Nat → Int} {k : Nat} (hk : k < n) : (rw1 n f).take (k + 1) = (rw1 n f).take k ++ [f k] := by
  rw [List.take_add_one]
  unfold rw1
  rw [List.getElem?_map, List.getElem?_range hk]
  rfl
theorem rw1_full (n : Nat) (f : Nat → Int) : (rw1 n f).take n = rw1 n f := List.take_of_length_le (by rw [rw1_len]; exact Nat.le_refl _)
theorem rw1_tlen {n : Nat} {f : Nat → Int} {k : Nat} (hk : k ≤ n) : ((rw1 n f).take k).length = k := by rw [List.length_take, rw1_len]; omega
theorem rw1_set {n : Nat} {f : Nat → Int} (k : Nat) (x : Int) : (rw1 n f).set k x = rw1 n fun j => if j = k then x else f j := by
  refine List.ext_getElem? fun j => ?_
  unfold rw1
  rw [List.getElem?_set]
  by_cases e : k = j
  · subst e
    by_cases hk : k < n
    · simp [hk]
    · simp [hk]
  · rw [if_neg e]
    by_cases hj : j < n
    · simp [hj, Ne.symm e]
    · simp [hj]
end Go.Proofs.YtedhippamfioeaaDoor.Vector
