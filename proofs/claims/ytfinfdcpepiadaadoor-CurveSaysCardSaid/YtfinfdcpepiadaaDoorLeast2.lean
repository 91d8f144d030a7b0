/- The document's least of the second part. No statement is proved here. -/
import Derived.Test.YtfinfdcpepiadaaDoorKit
namespace Go.Proofs.YtfinfdcpepiadaaDoor.Kit
open Go.ChangeShapes Go.WideShapes Go.ChangeAt Go.RowKit
set_option linter.unusedVariables false
theorem least2_any (a b : Int) (w : World) (R : Int) (hR : (if b < a then b else a) = R) : Calls Tryd.prog 22 #[.int .i64 a, .int .i64 b] w fun e w' => e = .returned (.int .i64 R) ∧ w' = w := by
  subst hR
  by_cases h : a < b
  · have t1 : decide (a < b) = true := decide_eq_true h
    rw [if_neg (by omega)]
    go_enter Tryd.func22, Tryd.ntmps22
    go_wp2_with fail
    go_ret
    exact ⟨rfl, rfl⟩
  · have t1 : decide (a < b) = false := decide_eq_false h
    have e : (if b < a then b else a) = b := by split <;> omega
    rw [e]
    go_enter Tryd.func22, Tryd.ntmps22
    go_wp2_with fail
    go_ret
    exact ⟨rfl, rfl⟩
end Go.Proofs.YtfinfdcpepiadaaDoor.Kit
