/- The document's most of the second part. No statement is proved here. -/
import Derived.Test.YtfinfdcpepiadaaDoorKit
namespace Go.Proofs.YtfinfdcpepiadaaDoor.Kit
open Go.ChangeShapes Go.WideShapes Go.ChangeAt Go.RowKit
set_option linter.unusedVariables false
theorem most2_any (a b : Int) (w : World) (R : Int) (hR : (if a ≤ b then b else a) = R) : Calls Tryd.prog 23 #[.int .i64 a, .int .i64 b] w fun e w' => e = .returned (.int .i64 R) ∧ w' = w := by
  subst hR
  by_cases h : b < a
  · have t1 : decide (b < a) = true := decide_eq_true h
    rw [if_neg (by omega)]
    go_enter Tryd.func23, Tryd.ntmps23
    go_wp2_with fail
    go_ret
    exact ⟨rfl, rfl⟩
  · have t1 : decide (b < a) = false := decide_eq_false h
    rw [if_pos (by omega)]
    go_enter Tryd.func23, Tryd.ntmps23
    go_wp2_with fail
    go_ret
    exact ⟨rfl, rfl⟩
end Go.Proofs.YtfinfdcpepiadaaDoor.Kit
