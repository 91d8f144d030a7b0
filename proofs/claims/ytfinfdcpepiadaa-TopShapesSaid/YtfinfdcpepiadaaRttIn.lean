/- The laws' in, and small steps of what old memory keeps. No statement is proved here. -/
import Derived.Test.YtfinfdcpepiadaaBase
namespace Go.Proofs.Ytfinfdcpepiadaa.Rtt
open Go.ChangeShapes Go.WideShapes Go.ChangeAt Go.RowKit Go.Proofs.Ytfinfdcpepiadaa.Kit Go.Proofs.Ytfinfdcpepiadaa.App
set_option linter.unusedVariables false
set_option maxRecDepth 20000

theorem in_any (n a b : Int) (w : World) (R : Bool) (hR : R = (decide (a ≤ n) && decide (n ≤ b))) : Calls Try.prog 13 #[.int .i64 n, .int .i64 a, .int .i64 b] w fun e w' => e = .returned (.bool R) ∧ w' = w := by
  subst hR
  by_cases h1 : a ≤ n
  · have t1 : decide (a ≤ n) = true := decide_eq_true h1
    go_enter Try.func13, Try.ntmps13
    go_wp2_with fail
    go_ret
    exact ⟨by rw [t1]; simp, rfl⟩
  · have t1 : decide (a ≤ n) = false := decide_eq_false h1
    go_enter Try.func13, Try.ntmps13
    go_wp2_with fail
    go_ret
    exact ⟨rfl, rfl⟩
theorem in_yes {k : Int} (h : 0 ≤ k) (h2 : k ≤ 100000) : true = (decide ((0 : Int) ≤ k) && decide (k ≤ 100000)) := by simp; omega
theorem in_no {k : Int} (h : ¬ (0 ≤ k ∧ k ≤ 100000)) : false = (decide ((0 : Int) ≤ k) && decide (k ≤ 100000)) := by
  symm
  rw [Bool.and_eq_false_iff, decide_eq_false_iff_not, decide_eq_false_iff_not]
  omega
theorem gbelow {B g : Nat} {a w w' : World} (h : Below B a w) (hB : B ≤ a.heap.size) (hg : w.grownBy w' (some g)) (hBg : B ≤ g) : Below B a w' :=
  h.grown hg (Nat.le_trans hB h.size) (fun k hk => by have := Option.some.inj hk; omega)
theorem bdrewN {B : Nat} {a w : World} (h : Below B a w) (n : Nat) : Below B a (w.drewN n) := below_drewN h n
end Go.Proofs.Ytfinfdcpepiadaa.Rtt
