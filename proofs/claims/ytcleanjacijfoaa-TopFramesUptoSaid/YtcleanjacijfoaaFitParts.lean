/- The parts of a text are what may come in as parts. No statement is proved here. -/
import Derived.Test.YtcleanjacijfoaaJoinLaws
namespace Go.Proofs.Ytcleanjacijfoaa.Part
open Go.ChangeShapes Go.WideShapes Go.ChangeAt Go.RowKit Go.Proofs.Ytcleanjacijfoaa.Kit Go.Proofs.Ytcleanjacijfoaa.App Go.Proofs.Ytcleanjacijfoaa.Cells
set_option linter.unusedVariables false
set_option maxRecDepth 20000
theorem fits_parts (s : ByteArray) (n : Nat) (hn : 0 < n) (hs : s.size ≤ 200) (x : Prt) (hx : x ∈ parts s n) : Fits x ∧ right x = true := by
  have h := of_parts s n hn hs x hx
  have hr := (right_iff x).1 h.1
  have hb : x.bs.length = x.dat.size := rfl
  refine ⟨⟨?_, by unfold maxLen; omega⟩, h.1⟩
  simp [Lit.wf, IntKind.min, IntKind.max, IntKind.signed, IntKind.bits]; omega
end Go.Proofs.Ytcleanjacijfoaa.Part
