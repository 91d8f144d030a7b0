/- The statements' Error at the program's own error. No statement is proved here. -/
import Derived.Test.YtckfobkkjiiheaaDoorErr
import Derived.Test.YtckfobkkjiiheaaDoorAs
namespace Go.Proofs.YtckfobkkjiiheaaDoor.Err
open Go.ChangeShapes Go.WideShapes Go.ChangeAt Go.RowKit Go.Proofs.YtckfobkkjiiheaaDoor.Kit Go.Proofs.YtckfobkkjiiheaaDoor.App Go.Proofs.YtckfobkkjiiheaaDoor.As
set_option linter.unusedVariables false
theorem err_same (c : Int) (w : World) (hg : Handle w) : Calls Tryd.prog 5 #[er c, .int .i64 c] w fun e w' => e = .returned (.bool true) ∧ Below w.heap.size w w' :=
  (error_any c c w hg).mono fun e w' ⟨h1, h2⟩ => ⟨by rw [h1]; simp, h2⟩
end Go.Proofs.YtckfobkkjiiheaaDoor.Err
