/- Package rtt: what the laws call besides: in, least, rttFact. No statement is proved here. -/
import Derived.Test.YtkkcfogfbabkfaaRtt1
namespace Go.Proofs.Ytkkcfogfbabkfaa.Rtt
open Go.ChangeShapes Go.WideShapes Go.ChangeAt Go.RowKit Go.Proofs.Ytkkcfogfbabkfaa.Kit Go.Proofs.Ytkkcfogfbabkfaa.App Go.Proofs.Ytkkcfogfbabkfaa.RttMath
set_option linter.unusedVariables false
set_option maxRecDepth 20000
set_option maxHeartbeats 1000000

theorem in_any (n a b : Int) (w : World) (R : Bool) (hR : R = (decide (a ≤ n) && decide (n ≤ b))) : Calls Try.prog 10 #[.int .i64 n, .int .i64 a, .int .i64 b] w fun e w' => e = .returned (.bool R) ∧ w' = w := by
  subst hR
  by_cases h1 : a ≤ n
  · have t1 : decide (a ≤ n) = true := decide_eq_true h1
    go_enter Try.func10, Try.ntmps10
    go_wp2_with fail
    go_ret
    exact ⟨by rw [t1]; simp, rfl⟩
  · have t1 : decide (a ≤ n) = false := decide_eq_false h1
    go_enter Try.func10, Try.ntmps10
    go_wp2_with fail
    go_ret
    exact ⟨rfl, rfl⟩
theorem in_yes {k : Int} (h : 0 ≤ k) (h2 : k ≤ 100000) : true = (decide ((0 : Int) ≤ k) && decide (k ≤ 100000)) := by simp; omega
theorem in_no {k : Int} (h : ¬ (0 ≤ k ∧ k ≤ 100000)) : false = (decide ((0 : Int) ≤ k) && decide (k ≤ 100000)) := by
  symm
  rw [Bool.and_eq_false_iff, decide_eq_false_iff_not, decide_eq_false_iff_not]
  omega
theorem gbelow {B g : Nat} {a w w' : World} (h : Below B a w) (hB : B ≤ a.heap.size) (hg : w.grownBy w' (some g)) (hBg : B ≤ g) : Below B a w' :=
  h.grown hg (Nat.le_trans hB h.size) (fun k hk => by have := Option.some.inj hk; omega)
theorem bdrewN {B : Nat} {a w : World} (h : Below B a w) (n : Nat) : Below B a (w.drewN n) := below_drewN h n
theorem fact_any (w : World) : Calls Try.prog 7 #[] w fun e w' => e = .returned (.bool true) ∧ Below w.heap.size w w' := by
  have N := Lib.hid (new_good 7 w (by omega) (by omega))
  have T := Lib.hid (fun W hT => take_good w.heap.size (-1) 0 7 100 100 50 300 W hT (ok_new (by omega) (by omega)) (by omega) (by omega) rfl (by decide) (by decide))
  have G := Lib.hid (fun W hT => guess_any w.heap.size 100 50 300 W hT)
  have Q := Lib.hid (fun W hT => wait_any w.heap.size 100 50 300 W hT)
  go_enter Try.func7, Try.ntmps7
  go_wp2_with fail
  refine N.out.mono ?_; rintro e w1 ⟨rfl, hT1, hb1⟩
  have C1 := Lib.hid (T.out w1 hT1)
  clear hT1 N
  go_wp2_with fail
  refine C1.out.mono ?_; rintro e w2 ⟨rfl, hT2, hg2⟩
  have hB2 := gbelow hb1 (Nat.le_refl _) hg2 (Nat.le_refl _)
  have C2 := Lib.hid (G.out w2 hT2)
  have HT2 := Lib.hid hT2
  clear hT2 hg2 C1 hb1
  go_wp2_with fail
  refine C2.out.mono ?_; rintro e w3 ⟨rfl, m3, rfl⟩
  have hB3 := bdrewN hB2 m3
  have C3 := Lib.hid (Q.out (w2.drewN m3) HT2.out)
  clear C2 hB2
  go_wp2_with fail
  refine C3.out.mono ?_; rintro e w4 ⟨rfl, rfl⟩
  go_wp2_with fail
  go_ret
  exact ⟨rfl, hB3⟩
end Go.Proofs.Ytkkcfogfbabkfaa.Rtt
