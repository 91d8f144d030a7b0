/- The laws' least. No statement is proved here. -/
import Derived.Test.YtkkcfogfbabkfaaBase
namespace Go.Proofs.Ytkkcfogfbabkfaa.Rtt
open Go.ChangeShapes Go.WideShapes Go.ChangeAt Go.RowKit Go.Proofs.Ytkkcfogfbabkfaa.Kit Go.Proofs.Ytkkcfogfbabkfaa.App
set_option linter.unusedVariables false
set_option maxRecDepth 20000
theorem least_any (a b : Int) (w : World) (R : Int) (hR : (if a < b then a else b) = R) : Calls Try.prog 13 #[.int .i64 a, .int .i64 b] w fun e w' => e = .returned (.int .i64 R) ∧ w' = w := by
  subst hR
  by_cases h : a < b
  · have t1 : decide (a < b) = true := decide_eq_true h
    rw [if_pos h]
    go_enter Try.func13, Try.ntmps13
    go_wp2_with fail
    go_ret
    exact ⟨rfl, rfl⟩
  · have t1 : decide (a < b) = false := decide_eq_false h
    rw [if_neg h]
    go_enter Try.func13, Try.ntmps13
    go_wp2_with fail
    go_ret
    exact ⟨rfl, rfl⟩
end Go.Proofs.Ytkkcfogfbabkfaa.Rtt
