/- The statements' Error at the program's own error. No statement is proved here. -/
import Derived.Test.YteggajhpjdidcaaDoorErr
import Derived.Test.YteggajhpjdidcaaDoorAs
namespace Go.Proofs.YteggajhpjdidcaaDoor.Err
open Go.ChangeShapes Go.WideShapes Go.ChangeAt Go.RowKit Go.Proofs.YteggajhpjdidcaaDoor.Kit Go.Proofs.YteggajhpjdidcaaDoor.App Go.Proofs.YteggajhpjdidcaaDoor.As
set_option linter.unusedVariables false
theorem err_same (c : Int) (w : World) (hg : Handle w) : Calls Tryd.prog 8 #[er c, .int .i64 c] w fun e w' => e = .returned (.bool true) ∧ Below w.heap.size w w' :=
  (error_any c c w hg).mono fun e w' ⟨h1, h2⟩ => ⟨by rw [h1]; simp, h2⟩
end Go.Proofs.YteggajhpjdidcaaDoor.Err
