/- The laws' helper stpFact. No statement is proved here. -/
import Derived.Test.YthjhlemdmahlnaaStpTree
import Derived.Test.YthjhlemdmahlnaaSame
namespace Go.Proofs.Ythjhlemdmahlnaa.Stp
open Go.ChangeShapes Go.WideShapes Go.ChangeAt Go.RowKit Go.Proofs.Ythjhlemdmahlnaa.Kit Go.Proofs.Ythjhlemdmahlnaa.App Go.Proofs.Ythjhlemdmahlnaa.Cells Go.Proofs.Ythjhlemdmahlnaa.Err Go.Proofs.Ythjhlemdmahlnaa.Vector Go.Proofs.Ythjhlemdmahlnaa.Spf
set_option linter.unusedVariables false
set_option maxRecDepth 20000
set_option maxHeartbeats 2000000

def two : List Lk := [⟨2, 1, 1⟩, ⟨0, 2, 1⟩]
theorem two_code : code 3 two = 0 := by decide +kernel
theorem two_good : Vector.Good 3 two := by
  obtain ⟨m, h1, h2⟩ := good_of two_code
  obtain rfl : m = 3 := by omega
  exact h2
theorem rt_two (i : Nat) (h : ds two i 0 ≠ 1000) : rt two i = 0 := rt_eq two_good ⟨h, fun u hu => absurd hu (Nat.not_lt_zero _)⟩
theorem rt0 : rt two 0 = 0 := rt_two 0 (by decide +kernel)
theorem rt1 : rt two 1 = 0 := rt_two 1 (by decide +kernel)
theorem rt2 : rt two 2 = 0 := rt_two 2 (by decide +kernel)
theorem two_rt : rw1 3 (rtI two) = [0, 0, 0] := by
  show [(rt two 0 : Int), (rt two 1 : Int), (rt two 2 : Int)] = _
  rw [rt0, rt1, rt2]; rfl
theorem two_fr : rw1 3 (fr two) = [0, 2, 1] := by
  show [ds two 0 (rt two 0), ds two 1 (rt two 1), ds two 2 (rt two 2)] = _
  rw [rt0, rt1, rt2]
  decide +kernel
theorem hop_two {s t v : Nat} (hst : s ≠ t) (hd : ds two s t ≠ 1000) (h1 : co two s v ≠ 1000) (h2 : co two s v + ds two v t = ds two s t) (h3 : ∀ u, u < v → ¬ (co two s u ≠ 1000 ∧ co two s u + ds two u t = ds two s t)) : hop two s t = v :=
  hop_eq two_good (.inr ⟨fun e => by rcases e with e | e; exact hst e; exact hd e, v, rfl, ⟨h1, h2⟩, h3⟩)
theorem hop10 : hop two 1 0 = ((2 : Nat) : Int) := hop_two (by decide) (by decide +kernel) (by decide +kernel) (by decide +kernel) (by decide +kernel)
theorem hop20 : hop two 2 0 = ((0 : Nat) : Int) := hop_two (by decide) (by decide +kernel) (by decide +kernel) (by decide +kernel) (by decide +kernel)
theorem two_ov : rw1 3 (ov two) = [-1, 2, 0] := by
  have h0 : hop two 0 0 = -1 := hop_none two_good (.inl rfl)
  show [hop two 0 (rt two 0), hop two 1 (rt two 1), hop two 2 (rt two 2)] = _
  rw [rt0, rt1, rt2, h0, hop10, hop20]
  rfl
theorem two_lit (w : World) : CI layL (w.alloc (.cells #[.int .i64 2, .int .i64 1, .int .i64 1, .int .i64 0, .int .i64 2, .int .i64 1] 33)) (some ⟨w.heap.size, 0, none⟩) 2 two := lit_links w two 33 (by decide)
theorem fact_any (w : World) : Calls Try.prog 6 #[] w fun e w' => e = .returned (.bool true) ∧ Below w.heap.size w w' := by
  have HB0 := Lib.hid (balloc (brefl w) (.cells #[.int .i64 2, .int .i64 1, .int .i64 1, .int .i64 0, .int .i64 2, .int .i64 1] 33))
  have HT := Lib.hid (two_lit w)
  have TR := Lib.hid (fun W (hW : CI layL W (some ⟨w.heap.size, 0, none⟩) 2 two) => tree_good 3 (some ⟨w.heap.size, 0, none⟩) 2 2 two W rfl hW two_good)
  rw [two_rt, two_fr, two_ov] at TR
  go_enter Try.func6, Try.ntmps6
  go_wp2_with fail
  refine (TR.out _ HT.out).mono ?_; rintro e w1 ⟨u, v, x, rfl, ht⟩
  have HB1 := Lib.hid (bcall HB0.out ht.bel)
  obtain ⟨pu, cu, rfl, iu⟩ := ht.o1.form
  obtain ⟨pv, cv, rfl, iv⟩ := ht.o2.form
  obtain ⟨px, cx, rfl, ix⟩ := ht.o3.form
  have IU := Lib.hid iu
  have IV := Lib.hid iv
  have IX := Lib.hid ix
  clear TR HB0 HT ht iu iv ix
  have S1 := Lib.hid (fun W (hW : Ints W pu cu [0, 0, 0]) q (hq : Ints W q 3 [0, 0, 0]) => ints_any pu q cu 3 3 3 [0, 0, 0] [0, 0, 0] W rfl rfl hW hq true (by decide))
  have S2 := Lib.hid (fun W (hW : Ints W pv cv [0, 2, 1]) q (hq : Ints W q 3 [0, 2, 1]) => ints_any pv q cv 3 3 3 [0, 2, 1] [0, 2, 1] W rfl rfl hW hq true (by decide))
  have S3 := Lib.hid (fun W (hW : Ints W px cx [-1, 2, 0]) q (hq : Ints W q 3 [-1, 2, 0]) => ints_any px q cx 3 3 3 [-1, 2, 0] [-1, 2, 0] W rfl rfl hW hq true (by decide))
  have A1 := Lib.hid (fun W => lit_ints W [0, 0, 0] (by decide) (by decide))
  have A2 := Lib.hid (fun W => lit_ints W [0, 2, 1] (by decide) (by decide))
  have A3 := Lib.hid (fun W => lit_ints W [-1, 2, 0] (by decide) (by decide))
  go_wp2_with fail
  refine (S1.out _ (IU.out.below (balloc (brefl w1) _)) _ (A1.out w1)).mono ?_; rintro e w3 ⟨rfl, hb⟩
  have HB3 := Lib.hid (bcall (balloc HB1.out _) hb)
  have IV3 := Lib.hid ((IV.out.below (balloc (brefl w1) _)).below hb)
  have IX3 := Lib.hid (Ints.below (Ints.below IX.out (balloc (brefl w1) _)) hb)
  clear hb IU IV IX HB1 S1
  go_wp2_with fail
  refine (S2.out _ (IV3.out.below (balloc (brefl w3) _)) _ (A2.out w3)).mono ?_; rintro e w4 ⟨rfl, hb⟩
  have HB4 := Lib.hid (bcall (balloc HB3.out _) hb)
  have IX4 := Lib.hid ((IX3.out.below (balloc (brefl w3) _)).below hb)
  clear hb IV3 IX3 HB3 S2
  go_wp2_with fail
  refine (S3.out _ (IX4.out.below (balloc (brefl w4) _)) _ (A3.out w4)).mono ?_; rintro e w5 ⟨rfl, hb⟩
  have HB5 := Lib.hid (bcall (balloc HB4.out _) hb)
  clear hb S3
  go_wp2_with fail
  go_ret
  exact ⟨by first | rfl | simp, HB5.out⟩
end Go.Proofs.Ythjhlemdmahlnaa.Stp
