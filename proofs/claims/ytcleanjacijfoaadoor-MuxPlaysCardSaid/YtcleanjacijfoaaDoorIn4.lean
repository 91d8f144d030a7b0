/- Part four's in. No statement is proved here. -/
import Derived.Test.YtcleanjacijfoaaDoorKit
import Derived.Test.YtcleanjacijfoaaDoorErr
import Derived.RegionTactic
import Derived.OwnWalk
namespace Go.Proofs.YtcleanjacijfoaaDoor.Ring
open Go.ChangeShapes Go.WideShapes Go.ChangeAt Go.RowKit Go.Proofs.YtcleanjacijfoaaDoor.Kit Go.Proofs.YtcleanjacijfoaaDoor.App Go.Proofs.YtcleanjacijfoaaDoor.Err
set_option linter.unusedVariables false
set_option maxRecDepth 20000
set_option maxHeartbeats 1000000

theorem in_any (n a b : Int) (w : World) (R : Bool) (hR : R = (decide (a ≤ n) && decide (n ≤ b))) : Calls Tryd.prog 8 #[.int .i64 n, .int .i64 a, .int .i64 b] w fun e w' => e = .returned (.bool R) ∧ w' = w := by
  subst hR
  by_cases h1 : a ≤ n
  · have t1 : decide (a ≤ n) = true := decide_eq_true h1
    go_enter Tryd.func8, Tryd.ntmps8
    go_wp2_with fail
    go_ret
    exact ⟨by rw [t1]; simp, rfl⟩
  · have t1 : decide (a ≤ n) = false := decide_eq_false h1
    go_enter Tryd.func8, Tryd.ntmps8
    go_wp2_with fail
    go_ret
    exact ⟨rfl, rfl⟩
end Go.Proofs.YtcleanjacijfoaaDoor.Ring
