/- Distances are small numbers. No statement is proved here. -/
import Derived.Test.YtedhippamfioeaaDoorVecMath
import Derived.Test.YtedhippamfioeaaDoorErr
namespace Go.Proofs.YtedhippamfioeaaDoor.Vector
set_option linter.unusedVariables false

theorem wf_of {x : Int} (h : 0 ≤ x ∧ x ≤ 1000) : (Lit.int .i64 x).wf = true := by
  simp [Lit.wf, IntKind.min, IntKind.max, IntKind.signed, IntKind.bits]; omega
theorem D_b {n : Nat} {ls : List Lk} (g : Good n ls) (k i j : Nat) : 0 ≤ D ls k i j ∧ D ls k i j ≤ 1000 := ⟨D_nat g k i j, D_top (n := n) k i j⟩
end Go.Proofs.YtedhippamfioeaaDoor.Vector
