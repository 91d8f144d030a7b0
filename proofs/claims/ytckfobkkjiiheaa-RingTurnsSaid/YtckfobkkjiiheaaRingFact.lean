/- The laws' helper ringFact. No statement is proved here. -/
import Derived.Test.YtckfobkkjiiheaaRingOps
import Derived.Test.YtckfobkkjiiheaaSame
namespace Go.Proofs.Ytckfobkkjiiheaa.Ring
open Go.ChangeShapes Go.WideShapes Go.ChangeAt Go.RowKit Go.Proofs.Ytckfobkkjiiheaa.Kit Go.Proofs.Ytckfobkkjiiheaa.App Go.Proofs.Ytckfobkkjiiheaa.Err Go.Proofs.Ytckfobkkjiiheaa.RingMath
set_option linter.unusedVariables false
set_option maxRecDepth 20000
set_option maxHeartbeats 2000000

theorem one_good : Good [3, 1] 2 := by
  obtain ⟨k, h1, h2⟩ := codeH_zero (show codeH [3, 1] 2 = 0 from by decide)
  obtain rfl : k = 2 := by omega
  exact h2
theorem one_ord : ord [3, 1] 2 = [0, 0, 1, 0] := by decide +kernel
theorem one_gap : gap (ord [3, 1] 2) = 1 := by
  rw [one_ord]
  refine gap_eq ⟨fun i j hn => ?_, .inr ⟨1, 3, ⟨by decide, ⟨0, rfl, rfl⟩, fun k h1 h2 => ?_⟩, rfl⟩⟩
  · obtain ⟨h1, ⟨x, h2, h3⟩, h4⟩ := hn
    have hj : j < 4 := by
      rcases Nat.lt_or_ge j 4 with h5 | h5
      · exact h5
      · rw [List.getElem?_eq_none (by simpa using h5)] at h3; cases h3
    rcases Nat.lt_or_ge (j - i - 1) 2 with h5 | h5
    · omega
    · obtain rfl : i = 0 := by omega
      exact absurd rfl (h4 1 (by omega) (by omega))
  · obtain rfl : k = 2 := by omega
    decide
theorem two_ints (w : World) : Ints (w.alloc (.cells #[.int .i64 3, .int .i64 1] 3)) (some ⟨w.heap.size, 0, none⟩) 2 [3, 1] := lit_ints w [3, 1] (by decide) (by decide)
theorem fact_any (w : World) : Calls Try.prog 7 #[] w fun e w' => e = .returned (.bool true) ∧ Below w.heap.size w w' := by
  have HB0 := Lib.hid (balloc (brefl w) (.cells #[.int .i64 3, .int .i64 1] 3))
  have RR := Lib.hid (run_good (some ⟨w.heap.size, 0, none⟩) 2 2 [3, 1] 2 _ rfl (two_ints w) one_good)
  have GG := Lib.hid (fun W => gap_good (some ⟨W.heap.size, 0, none⟩) 2 2 [3, 1] 2 _ rfl (two_ints W) one_good)
  rw [one_ord, show ((2 : Nat) : Int) = 2 from rfl] at RR
  rw [one_gap, show ((2 : Nat) : Int) = 2 from rfl, show ((1 : Nat) : Int) = 1 from rfl] at GG
  have A1 := Lib.hid (fun W => lit_ints W [0, 0, 1, 0] (by decide) (by decide))
  have S1 := Lib.hid (fun W pu cu (hW : Ints W pu cu [0, 0, 1, 0]) q (hq : Ints W q 4 [0, 0, 1, 0]) => ints_any pu q cu 4 4 4 [0, 0, 1, 0] [0, 0, 1, 0] W rfl rfl hW hq true (by decide))
  go_enter Try.func7, Try.ntmps7
  go_wp2_with fail
  refine RR.out.mono ?_; rintro e w1 ⟨u, rfl, ho, hb⟩
  have HB1 := Lib.hid (bcall HB0.out hb)
  have ho : OwnI w1 _ u [0, 0, 1, 0] := ho
  obtain ⟨pu, cu, rfl, iu⟩ := ho.form
  have IU := Lib.hid iu
  clear RR HB0 ho iu hb
  go_wp2_with fail
  refine (GG.out w1).mono ?_; rintro e w2 ⟨rfl, hb⟩
  have HB2 := Lib.hid (bcall (balloc HB1.out _) hb)
  have IU2 := Lib.hid ((IU.out.below (balloc (brefl w1) _)).below hb)
  clear GG HB1 IU hb
  go_wp2_with fail
  refine (S1.out _ pu cu (IU2.out.below (balloc (brefl w2) _)) _ (A1.out w2)).mono ?_; rintro e w3 ⟨rfl, hb⟩
  have HB3 := Lib.hid (bcall (balloc HB2.out _) hb)
  clear hb IU2 HB2 S1
  go_wp2_with fail
  go_ret
  exact ⟨by first | rfl | simp, HB3.out⟩
end Go.Proofs.Ytckfobkkjiiheaa.Ring
