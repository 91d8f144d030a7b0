/- bucketFact. No statement is proved here. -/
import Derived.Test.YtegbnldgbfbaaaaBucketLaw
namespace Go.Proofs.Ytegbnldgbfbaaaa.Bucket
open Go.ChangeShapes Go.WideShapes Go.ChangeAt Go.RowKit Go.Proofs.Ytegbnldgbfbaaaa.Kit Go.Proofs.Ytegbnldgbfbaaaa.App Go.Proofs.Ytegbnldgbfbaaaa.Err
set_option linter.unusedVariables false
set_option maxRecDepth 20000
set_option maxHeartbeats 1000000

theorem fact_any (w : World) : Calls Try.prog 5 #[] w fun e w' => e = .returned (.bool true) ∧ Below w.heap.size w w' := by
  have N := Lib.hid (new_good 2 5 w (by omega))
  go_enter Try.func5, Try.ntmps5
  go_wp2_with fail
  refine N.out.mono ?_; rintro e w1 ⟨rfl, hT1, hb1⟩
  obtain ⟨g, hg⟩ : ∃ g, w.heap.size = g := ⟨_, rfl⟩
  have HG := Lib.hid (Nat.le_of_eq hg)
  rw [hg] at hT1 ⊢
  have C1 := Lib.hid (take_yes g 2 5 5 0 0 5 (by unfold Ok; omega) (by unfold GoodT; omega) (by decide) w1 hT1)
  have HB1 := Lib.hid hb1
  clear hT1 hb1 N
  go_wp2_with fail
  refine C1.out.mono ?_; rintro e w2 ⟨rfl, hT2, hg2⟩
  have C2 := Lib.hid (take_less g 2 5 0 0 1 3 (by unfold Ok; omega) (by unfold GoodT; omega) (by decide) w2 hT2)
  have HB2 := Lib.hid (gbelow HB1.out (Nat.le_refl _) hg2 HG.out)
  clear hT2 hg2 HB1 C1
  go_wp2_with fail
  refine C2.out.mono ?_; rintro e w3 ⟨rfl, hT3, hg3⟩
  have C3 := Lib.hid (take_yes g 2 5 2 1 2 4 (by unfold Ok; omega) (by unfold GoodT; omega) (by decide) w3 hT3)
  have HB3 := Lib.hid (gbelow HB2.out (Nat.le_refl _) hg3 HG.out)
  clear hT3 hg3 HB2 C2
  go_wp2_with fail
  refine C3.out.mono ?_; rintro e w4 ⟨rfl, hT4, hg4⟩
  have HB4 := Lib.hid (gbelow HB3.out (Nat.le_refl _) hg4 HG.out)
  clear hT4 hg4 HB3 C3
  go_wp2_with fail
  go_ret
  exact ⟨by first | rfl | simp, by first | exact HB4.out | (rw [hg]; exact HB4.out)⟩
end Go.Proofs.Ytegbnldgbfbaaaa.Bucket
