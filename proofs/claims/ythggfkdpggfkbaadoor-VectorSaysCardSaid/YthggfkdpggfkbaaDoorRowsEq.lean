/- Rows of numbers that are the same place by place. General. No statement is proved here. -/
import Derived.Test.YthggfkdpggfkbaaDoorRows0
import Derived.Test.YthggfkdpggfkbaaDoorSub
namespace Go.Proofs.YthggfkdpggfkbaaDoor.App
open Go.ChangeShapes Go.WideShapes Go.ChangeAt Go.RowKit Go.Proofs.YthggfkdpggfkbaaDoor.Kit
set_option linter.unusedVariables false
theorem eq_of_rows {a b : List (List Int)} (hl : a.length = b.length) (h : ∀ j : Nat, j < a.length → a[j]?.getD [] = b[j]?.getD []) : a = b := by
  refine List.ext_getElem hl fun j h1 h2 => ?_
  have := h j h1
  rwa [List.getElem?_eq_getElem h1, List.getElem?_eq_getElem h2] at this

end Go.Proofs.YthggfkdpggfkbaaDoor.App
