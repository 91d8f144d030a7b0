/- The laws' helper spfFact. No statement is proved here. -/
import Derived.Test.YthicejpgfmhimaaSpf8
import Derived.Test.YthicejpgfmhimaaSame
namespace Go.Proofs.Ythicejpgfmhimaa.Spf
open Go.ChangeShapes Go.WideShapes Go.ChangeAt Go.RowKit Go.Proofs.Ythicejpgfmhimaa.Kit Go.Proofs.Ythicejpgfmhimaa.App Go.Proofs.Ythicejpgfmhimaa.Cells Go.Proofs.Ythicejpgfmhimaa.Err Go.Proofs.Ythicejpgfmhimaa.Vector
set_option linter.unusedVariables false
set_option maxRecDepth 20000
set_option maxHeartbeats 2000000

def tri : List Lk := [⟨0, 1, 5⟩, ⟨0, 2, 1⟩, ⟨2, 1, 1⟩]
theorem tri_code : code 3 tri = 0 := by decide +kernel
theorem tri_good : Vector.Good 3 tri := by
  obtain ⟨m, h1, h2⟩ := good_of tri_code
  obtain rfl : m = 3 := by omega
  exact h2
theorem tri_far : rw1 3 (ds tri 0) = [0, 2, 1] := by decide +kernel
theorem away_no {s t : Nat} (h : s ≠ t) (h2 : ds tri s t ≠ 1000) : ¬ away tri s t := fun e => by
  rcases e with e | e
  · exact h e
  · exact h2 e
theorem hop_two {s t v : Nat} (hst : s ≠ t) (hd : ds tri s t ≠ 1000) (h1 : co tri s v ≠ 1000) (h2 : co tri s v + ds tri v t = ds tri s t) (h3 : ∀ u, u < v → ¬ (co tri s u ≠ 1000 ∧ co tri s u + ds tri u t = ds tri s t)) : hop tri s t = v :=
  hop_eq tri_good (.inr ⟨away_no hst hd, v, rfl, ⟨h1, h2⟩, h3⟩)
theorem hop01 : hop tri 0 1 = ((2 : Nat) : Int) := hop_two (by decide) (by decide +kernel) (by decide +kernel) (by decide +kernel) (by decide +kernel)
theorem hop02 : hop tri 0 2 = ((2 : Nat) : Int) := hop_two (by decide) (by decide +kernel) (by decide +kernel) (by decide +kernel) (by decide +kernel)
theorem hop21 : hop tri 2 1 = ((1 : Nat) : Int) := hop_two (by decide) (by decide +kernel) (by decide +kernel) (by decide +kernel) (by decide +kernel)
theorem tri_hop : rw1 3 (hop tri 0) = [-1, 2, 2] := by
  have h0 : hop tri 0 0 = -1 := hop_none tri_good (.inl rfl)
  show [hop tri 0 0, hop tri 0 1, hop tri 0 2] = _
  rw [h0, hop01, hop02]
  rfl
theorem tri_way : Ways 3 tri 0 1 0 [0, 2, 1] := .inr ⟨rfl, by decide +kernel, .step (by decide) hop01 (.step (by decide) hop21 .here)⟩
theorem tri_lit (w : World) : CI layL (w.alloc (.cells #[.int .i64 0, .int .i64 1, .int .i64 5, .int .i64 0, .int .i64 2, .int .i64 1, .int .i64 2, .int .i64 1, .int .i64 1] 41)) (some ⟨w.heap.size, 0, none⟩) 3 tri := lit_links w tri 41 (by decide)
theorem fact_any (w : World) : Calls Try.prog 7 #[] w fun e w' => e = .returned (.bool true) ∧ Below w.heap.size w w' := by
  have HB0 := Lib.hid (balloc (brefl w) (.cells #[.int .i64 0, .int .i64 1, .int .i64 5, .int .i64 0, .int .i64 2, .int .i64 1, .int .i64 2, .int .i64 1, .int .i64 1] 41))
  have HT := Lib.hid (tri_lit w)
  have FR := Lib.hid (fun W (hW : CI layL W (some ⟨w.heap.size, 0, none⟩) 3 tri) => from_good 3 0 (some ⟨w.heap.size, 0, none⟩) 3 3 tri W rfl hW tri_good (by decide))
  have WY := Lib.hid (fun W (hW : CI layL W (some ⟨w.heap.size, 0, none⟩) 3 tri) => way_good 3 0 1 (some ⟨w.heap.size, 0, none⟩) 3 3 tri W rfl hW tri_good (by decide) (by decide) 0 [0, 2, 1] tri_way)
  rw [tri_far, tri_hop] at FR
  rw [er_0] at WY
  go_enter Try.func7, Try.ntmps7
  go_wp2_with fail
  refine (FR.out _ HT.out).mono ?_; rintro e w1 ⟨u, v, rfl, hu, hv, hb⟩
  have HB1 := Lib.hid (bcall HB0.out hb)
  have HT1 := Lib.hid (HT.out.below hb)
  obtain ⟨pu, cu, rfl, iu⟩ := hu
  obtain ⟨pv, cv, rfl, iv⟩ := hv
  have IU := Lib.hid iu
  have IV := Lib.hid iv
  clear FR HB0 HT hb iu iv
  go_wp2_with fail
  refine (WY.out _ HT1.out).mono ?_; rintro e w2 ⟨v, rfl, hv, hb⟩
  have HB2 := Lib.hid (bcall HB1.out hb)
  have IU2 := Lib.hid (IU.out.below hb)
  have IV2 := Lib.hid (IV.out.below hb)
  obtain ⟨pl, cl, rfl, il⟩ := hv
  have IL := Lib.hid il
  clear WY HB1 HT1 hb il IU IV
  have S1 := Lib.hid (fun W (hW : Ints W pu cu [0, 2, 1]) q (hq : Ints W q 3 [0, 2, 1]) => ints_any pu q cu 3 3 3 [0, 2, 1] [0, 2, 1] W rfl rfl hW hq true (by decide))
  have S2 := Lib.hid (fun W (hW : Ints W pv cv [-1, 2, 2]) q (hq : Ints W q 3 [-1, 2, 2]) => ints_any pv q cv 3 3 3 [-1, 2, 2] [-1, 2, 2] W rfl rfl hW hq true (by decide))
  have S3 := Lib.hid (fun W (hW : Ints W pl cl [0, 2, 1]) q (hq : Ints W q 3 [0, 2, 1]) => ints_any pl q cl 3 3 3 [0, 2, 1] [0, 2, 1] W rfl rfl hW hq true (by decide))
  have AL := Lib.hid (fun W => lit_ints W [0, 2, 1] (by decide) (by decide))
  have AH := Lib.hid (fun W => lit_ints W [-1, 2, 2] (by decide) (by decide))
  go_wp2_with fail
  refine (S1.out _ (IU2.out.below (balloc (brefl w2) _)) _ (AL.out w2)).mono ?_; rintro e w3 ⟨rfl, hb⟩
  have HB3 := Lib.hid (bcall (balloc HB2.out _) hb)
  have IV3 := Lib.hid ((IV2.out.below (balloc (brefl w2) _)).below hb)
  have IL3 := Lib.hid (Ints.below (Ints.below IL.out (balloc (brefl w2) _)) hb)
  clear hb IU2 IV2 IL HB2 S1
  go_wp2_with fail
  refine (S2.out _ (IV3.out.below (balloc (brefl w3) _)) _ (AH.out w3)).mono ?_; rintro e w4 ⟨rfl, hb⟩
  have HB4 := Lib.hid (bcall (balloc HB3.out _) hb)
  have IL4 := Lib.hid ((IL3.out.below (balloc (brefl w3) _)).below hb)
  clear hb IV3 IL3 HB3 S2
  go_wp2_with fail
  refine (S3.out _ (IL4.out.below (balloc (brefl w4) _)) _ (AL.out w4)).mono ?_; rintro e w5 ⟨rfl, hb⟩
  have HB5 := Lib.hid (bcall (balloc HB4.out _) hb)
  clear hb S3
  go_wp2_with fail
  go_ret
  exact ⟨by first | rfl | simp, HB5.out⟩
end Go.Proofs.Ythicejpgfmhimaa.Spf
