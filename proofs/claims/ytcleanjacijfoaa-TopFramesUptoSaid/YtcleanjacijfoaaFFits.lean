/- The contract of frag.fits. No statement is proved here. -/
import Derived.Test.YtcleanjacijfoaaFCut
namespace Go.Proofs.Ytcleanjacijfoaa.Part
open Go.ChangeShapes Go.WideShapes Go.ChangeAt Go.RowKit Go.Proofs.Ytcleanjacijfoaa.Kit Go.Proofs.Ytcleanjacijfoaa.App Go.Proofs.Ytcleanjacijfoaa.Cells
set_option linter.unusedVariables false
set_option maxRecDepth 20000
theorem mixedP : Try.prog.follows .mixedOrders = true := by kernel_rfl
theorem fits_any (x : Prt) (w : World) (hF : Fits x) (R : Bool) (h : R = right x) :
    Calls Try.prog 29 #[val x] w fun e w' => e = .returned (.bool R) ∧ w' = w.alloc (.cells #[.int .i64 x.pos, .bool x.more, .string x.dat] 51) := by
  obtain ⟨a, b, s⟩ := x
  subst h
  have hb := bounds_int hF.1
  have hs : s.size ≤ maxLen := hF.2
  unfold maxLen at hs
  simp only at hb
  unfold val right
  by_cases h1 : 0 ≤ a
  · have t1 : decide (a ≥ 0) = true := decide_eq_true h1
    have t1' : decide (0 ≤ a) = true := decide_eq_true h1
    by_cases h2 : a ≤ 200
    · have t2 : decide (a ≤ 200) = true := decide_eq_true h2
      simp only [t1', t2, Bool.true_and]
      go_enter Try.func29, Try.ntmps29
      go_wp2_with fail
      go_ret
      exact ⟨rfl, rfl⟩
    · have t2 : decide (a ≤ 200) = false := decide_eq_false h2
      simp only [t1', t2, Bool.true_and, Bool.false_and]
      go_enter Try.func29, Try.ntmps29
      go_wp2_with fail
      go_ret
      exact ⟨rfl, rfl⟩
  · have t1 : decide (a ≥ 0) = false := decide_eq_false h1
    have t1' : decide (0 ≤ a) = false := decide_eq_false h1
    simp only [t1', Bool.false_and]
    go_enter Try.func29, Try.ntmps29
    go_wp2_with fail
    go_ret
    exact ⟨rfl, rfl⟩

end Go.Proofs.Ytcleanjacijfoaa.Part
