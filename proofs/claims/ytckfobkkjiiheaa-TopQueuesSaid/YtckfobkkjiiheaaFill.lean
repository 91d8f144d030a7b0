/- A list of numbers while it is written in place, from its beginning on. No statement is proved here. -/
import Derived.Test.YtckfobkkjiiheaaDrrTwo
namespace Go.Proofs.Ytckfobkkjiiheaa.App
open Go.Proofs.Ytckfobkkjiiheaa.Drr
set_option linter.unusedVariables false

/-- The first j of l, and noughts behind. -/
def fill (l : List Int) (j : Nat) : List Int := (List.range l.length).map fun i => if i < j then l[i]?.getD 0 else 0
theorem fill_len (l : List Int) (j : Nat) : (fill l j).length = l.length := by simp [fill]
theorem fill_zero (l : List Int) : fill l 0 = List.replicate l.length 0 := by simp [fill, List.map_const']
theorem fill_set {l : List Int} {j : Nat} (hj : j < l.length) : (fill l j).set j (l[j]?.getD 0) = fill l (j + 1) := by
  unfold fill
  rw [map_set _ _ j hj]
  refine List.map_congr_left fun i _ => ?_
  show _ = if i < j + 1 then l[i]?.getD 0 else 0
  by_cases e : i = j
  · subst e; rw [if_pos rfl, if_pos (by omega)]
  · rw [if_neg e]
    by_cases h : i < j
    · rw [if_pos h, if_pos (by omega)]
    · rw [if_neg h, if_neg (by omega)]
theorem fill_all (l : List Int) : fill l l.length = l := by
  refine List.ext_getElem (fill_len _ _) fun i h1 h2 => ?_
  simp [fill, h2]
end Go.Proofs.Ytckfobkkjiiheaa.App
