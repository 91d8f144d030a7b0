/- The laws' helper retryFact. No statement is proved here. -/
import Derived.Test.YteggajhpjdidcaaRetryOps
import Derived.Test.YteggajhpjdidcaaSame
namespace Go.Proofs.Yteggajhpjdidcaa.Retry
open Go.ChangeShapes Go.WideShapes Go.ChangeAt Go.RowKit Go.Proofs.Yteggajhpjdidcaa.Kit Go.Proofs.Yteggajhpjdidcaa.App Go.Proofs.Yteggajhpjdidcaa.Err Go.Proofs.Yteggajhpjdidcaa.RetryMath
set_option linter.unusedVariables false
set_option maxRecDepth 20000
set_option maxHeartbeats 2000000

theorem one_good : Good 2 [1, 0] := ⟨by decide, by decide, by decide, fun k hk => by
  have hk2 : k < 2 := hk
  rcases k with _|_|k
  · decide
  · decide
  · omega⟩
theorem one_sent : sent 2 [1, 0] = [(1, 1), (0, 2)] := by rw [sent_two]; decide
theorem one_who : who 2 [1, 0] = [1, 0] := by unfold who; rw [one_sent]; rfl
theorem one_slots : slots 2 [1, 0] = [1, 2] := by unfold slots; rw [one_sent]; rfl
theorem fact_any (w : World) : Calls Try.prog 8 #[] w fun e w' => e = .returned (.bool true) ∧ Below w.heap.size w w' := by
  have HB0 := Lib.hid (balloc (brefl w) (.cells #[.int .i64 1, .int .i64 0] 3))
  have RR := Lib.hid (run_good 2 (some ⟨w.heap.size, 0, none⟩) 2 2 [1, 0] _ rfl (lit_ints w [1, 0] (by decide) (by decide)) one_good 2 (by rw [one_sent]; rfl))
  have WW := Lib.hid (fun W => window_good 3 W (by decide))
  rw [one_who, one_slots, show ((2 : Nat) : Int) = 2 from rfl] at RR
  rw [show ((room 3 : Nat) : Int) = 8 from rfl, show ((3 : Nat) : Int) = 3 from rfl] at WW
  have A1 := Lib.hid (fun W => lit_ints W [1, 0] (by decide) (by decide))
  have A2 := Lib.hid (fun W => lit_ints W [1, 2] (by decide) (by decide))
  have S1 := Lib.hid (fun W pu cu (hW : Ints W pu cu [1, 0]) q (hq : Ints W q 2 [1, 0]) => ints_any pu q cu 2 2 2 [1, 0] [1, 0] W rfl rfl hW hq true (by decide))
  have S2 := Lib.hid (fun W pu cu (hW : Ints W pu cu [1, 2]) q (hq : Ints W q 2 [1, 2]) => ints_any pu q cu 2 2 2 [1, 2] [1, 2] W rfl rfl hW hq true (by decide))
  go_enter Try.func8, Try.ntmps8
  go_wp2_with fail
  refine RR.out.mono ?_; rintro e w1 ⟨⟨r, cr, r2, cr2, rfl, ir, ir2⟩, hb⟩
  have HB1 := Lib.hid (bcall HB0.out hb)
  have IR := Lib.hid ir
  have IR2 := Lib.hid ir2
  clear RR HB0 ir ir2 hb
  go_wp2_with fail
  refine (WW.out w1).mono ?_; rintro e w2 ⟨rfl, hb⟩
  have HB2 := Lib.hid (bcall HB1.out hb)
  have IS := Lib.hid (IR.out.below hb)
  have IS2 := Lib.hid (IR2.out.below hb)
  clear WW HB1 IR IR2 hb
  go_wp2_with fail
  refine (S1.out _ r cr (IS.out.below (balloc (brefl w2) _)) _ (A1.out w2)).mono ?_; rintro e w3 ⟨rfl, hb⟩
  have HB3 := Lib.hid (bcall (balloc HB2.out _) hb)
  have IT2 := Lib.hid ((IS2.out.below (balloc (brefl w2) _)).below hb)
  clear hb IS IS2 HB2 S1
  go_wp2_with fail
  refine (S2.out _ r2 cr2 (IT2.out.below (balloc (brefl w3) _)) _ (A2.out w3)).mono ?_; rintro e w4 ⟨rfl, hb⟩
  have HB4 := Lib.hid (bcall (balloc HB3.out _) hb)
  clear hb IT2 HB3 S2
  go_wp2_with fail
  go_ret
  exact ⟨by first | rfl | simp, HB4.out⟩
end Go.Proofs.Yteggajhpjdidcaa.Retry
