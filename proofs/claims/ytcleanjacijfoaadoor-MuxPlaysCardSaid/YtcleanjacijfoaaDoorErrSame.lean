/- The statements' Error at the program's own error. No statement is proved here. -/
import Derived.Test.YtcleanjacijfoaaDoorErr
import Derived.Test.YtcleanjacijfoaaDoorAs
namespace Go.Proofs.YtcleanjacijfoaaDoor.Err
open Go.ChangeShapes Go.WideShapes Go.ChangeAt Go.RowKit Go.Proofs.YtcleanjacijfoaaDoor.Kit Go.Proofs.YtcleanjacijfoaaDoor.App Go.Proofs.YtcleanjacijfoaaDoor.As
set_option linter.unusedVariables false
theorem err_same (c : Int) (w : World) (hg : Handle w) : Calls Tryd.prog 11 #[er c, .int .i64 c] w fun e w' => e = .returned (.bool true) ∧ Below w.heap.size w w' :=
  (error_any c c w hg).mono fun e w' ⟨h1, h2⟩ => ⟨by rw [h1]; simp, h2⟩
end Go.Proofs.YtcleanjacijfoaaDoor.Err
