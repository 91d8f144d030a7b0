/- The contract of gbn.Check. No statement is proved here. -/
import Derived.Test.YthiebkkfgegebaaAbp1
namespace Go.Proofs.Ythiebkkfgegebaa.Gbn
open Go.ChangeShapes Go.WideShapes Go.ChangeAt Go.RowKit Go.Proofs.Ythiebkkfgegebaa.Kit Go.Proofs.Ythiebkkfgegebaa.App Go.Proofs.Ythiebkkfgegebaa.Cells Go.Proofs.Ythiebkkfgegebaa.Fate Go.Proofs.Ythiebkkfgegebaa.Abp
set_option linter.unusedVariables false
set_option maxRecDepth 20000

/-- What is wrong with data, a window, a number of numbers, and so many fates. -/
def badG (l : List Int) (W R : Int) (m : Nat) : Int := if bad l m ≠ 0 then bad l m else if 1 ≤ W ∧ W ≤ 8 ∧ 2 ≤ R ∧ R ≤ 16 then 0 else 1
theorem badG_zero (l : List Int) (W R : Int) (m : Nat) : badG l W R m = 0 ↔ bad l m = 0 ∧ 1 ≤ W ∧ W ≤ 8 ∧ 2 ≤ R ∧ R ≤ 16 := by
  unfold badG
  by_cases h : bad l m ≠ 0
  · rw [if_pos h]; exact ⟨fun h2 => absurd h2 h, fun h2 => absurd h2.1 h⟩
  · rw [if_neg h]
    by_cases h2 : 1 ≤ W ∧ W ≤ 8 ∧ 2 ≤ R ∧ R ≤ 16
    · rw [if_pos h2]; exact ⟨fun _ => ⟨Decidable.not_not.1 h, h2⟩, fun _ => rfl⟩
    · rw [if_neg h2]; exact ⟨fun h3 => by omega, fun h3 => absurd h3.2 h2⟩
set_option maxHeartbeats 1000000 in
theorem check_any (p q : Option Addr) (cap cq n m : Nat) (l : List Int) (W R : Int) (w : World) (hn : n = l.length) (hi : Ints w p cap l) (hm : m ≤ 9223372036854775807) (c : Int) (hc : c = badG l W R m) :
    Calls Try.prog 12 #[.slice p n cap, .int .i64 W, .int .i64 R, .slice q m cq] w fun e w' => e = .returned (er c) ∧ w' = w := by
  obtain ⟨c0, hc0⟩ : ∃ c0, c0 = bad l m := ⟨_, rfl⟩
  have CK := Lib.hid (Abp.check_any p q cap cq n m l w hn hi hm c0 hc0)
  unfold badG at hc
  rw [← hc0] at hc
  clear hc0 hi hn
  by_cases h0 : c0 = 0
  · subst h0
    rw [if_neg (by simp)] at hc
    rw [er_0] at CK
    by_cases h1 : W < 1
    · have t1 : decide (W < 1) = true := decide_eq_true h1
      rw [if_neg (by omega)] at hc
      subst hc
      rw [er_1]
      go_enter Try.func12, Try.ntmps12
      go_wp2_with fail
      refine CK.out.mono ?_; rintro e w1 ⟨rfl, rfl⟩
      go_wp2_with fail
      go_ret
      exact ⟨rfl, rfl⟩
    · have t1 : decide (W < 1) = false := decide_eq_false h1
      by_cases h2 : W > 8
      · have t2 : decide (W > 8) = true := decide_eq_true h2
        rw [if_neg (by omega)] at hc
        subst hc
        rw [er_1]
        go_enter Try.func12, Try.ntmps12
        go_wp2_with fail
        refine CK.out.mono ?_; rintro e w1 ⟨rfl, rfl⟩
        go_wp2_with fail
        go_ret
        exact ⟨rfl, rfl⟩
      · have t2 : decide (W > 8) = false := decide_eq_false h2
        by_cases h3 : R < 2
        · have t3 : decide (R < 2) = true := decide_eq_true h3
          rw [if_neg (by omega)] at hc
          subst hc
          rw [er_1]
          go_enter Try.func12, Try.ntmps12
          go_wp2_with fail
          refine CK.out.mono ?_; rintro e w1 ⟨rfl, rfl⟩
          go_wp2_with fail
          go_ret
          exact ⟨rfl, rfl⟩
        · have t3 : decide (R < 2) = false := decide_eq_false h3
          by_cases h4 : R > 16
          · have t4 : decide (R > 16) = true := decide_eq_true h4
            rw [if_neg (by omega)] at hc
            subst hc
            rw [er_1]
            go_enter Try.func12, Try.ntmps12
            go_wp2_with fail
            refine CK.out.mono ?_; rintro e w1 ⟨rfl, rfl⟩
            go_wp2_with fail
            go_ret
            exact ⟨rfl, rfl⟩
          · have t4 : decide (R > 16) = false := decide_eq_false h4
            rw [if_pos (by omega)] at hc
            subst hc
            rw [er_0]
            go_enter Try.func12, Try.ntmps12
            go_wp2_with fail
            refine CK.out.mono ?_; rintro e w1 ⟨rfl, rfl⟩
            go_wp2_with fail
            go_ret
            exact ⟨rfl, rfl⟩
  · rw [if_pos h0] at hc
    subst hc
    rw [er_ne h0] at CK ⊢
    go_enter Try.func12, Try.ntmps12
    go_wp2_with fail
    refine CK.out.mono ?_; rintro e w1 ⟨rfl, rfl⟩
    go_wp2_with fail
    go_ret
    exact ⟨rfl, rfl⟩
end Go.Proofs.Ythiebkkfgegebaa.Gbn
