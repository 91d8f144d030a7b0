/- Contracts of the document's answer in. No statement is proved here. -/
import Derived.Test.YtapaglapngbbpaaDoorRPower
namespace Go.Proofs.YtapaglapngbbpaaDoor.Cidr
open Go.ChangeShapes Go.WideShapes Go.ChangeAt Go.RowKit Go.Proofs.YtapaglapngbbpaaDoor.Kit Go.Proofs.YtapaglapngbbpaaDoor.App Go.Proofs.YtapaglapngbbpaaDoor.Cells Go.Proofs.YtapaglapngbbpaaDoor.CidrMath
set_option linter.unusedVariables false
set_option maxRecDepth 20000

theorem rin (n a b : Int) (w : World) (R : Bool) (h : R = (decide (a ≤ n) && decide (n ≤ b))) : Calls Tryd.prog 27 #[.int .i64 n, .int .i64 a, .int .i64 b] w fun e w' => e = .returned (.bool R) ∧ w = w' := by
  subst h
  by_cases h1 : a ≤ n
  · have t1 : decide (a ≤ n) = true := decide_eq_true h1
    rw [t1, Bool.true_and]
    go_enter Tryd.func27, Tryd.ntmps27
    go_wp2
    go_ret
    exact ⟨rfl, rfl⟩
  · have t1 : decide (a ≤ n) = false := decide_eq_false h1
    rw [t1, Bool.false_and]
    go_enter Tryd.func27, Tryd.ntmps27
    go_wp2
    go_ret
    exact ⟨rfl, rfl⟩

end Go.Proofs.YtapaglapngbbpaaDoor.Cidr
