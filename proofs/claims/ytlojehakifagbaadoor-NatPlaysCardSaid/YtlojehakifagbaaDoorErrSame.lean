/- The statements' Error at the program's own error. No statement is proved here. -/
import Derived.Test.YtlojehakifagbaaDoorErr
import Derived.Test.YtlojehakifagbaaDoorAs
namespace Go.Proofs.YtlojehakifagbaaDoor.Err
open Go.ChangeShapes Go.WideShapes Go.ChangeAt Go.RowKit Go.Proofs.YtlojehakifagbaaDoor.Kit Go.Proofs.YtlojehakifagbaaDoor.App Go.Proofs.YtlojehakifagbaaDoor.As
set_option linter.unusedVariables false
theorem err_same (c : Int) (w : World) (hg : Handle w) : Calls Tryd.prog 15 #[er c, .int .i64 c] w fun e w' => e = .returned (.bool true) ∧ Below w.heap.size w w' :=
  (error_any c c w hg).mono fun e w' ⟨h1, h2⟩ => ⟨by rw [h1]; simp, h2⟩
end Go.Proofs.YtlojehakifagbaaDoor.Err
