/- TopWays: distance vectors, shortest paths, a flood and the spanning tree agree on who can be reached and how far: for every input. No condition. -/
import Derived.Test.YtedhippamfioeaaRpfKids
import Derived.Test.YtedhippamfioeaaVecRounds
import Derived.Test.YtedhippamfioeaaStpTree
import Derived.Test.YtedhippamfioeaaSame
import Derived.Test.YtedhippamfioeaaInTop
import Derived.BigQuiet
import Derived.Deep.RegionLaw
import Derived.Deep.RegionWith
import Derived.Deep.RegionHeld3
namespace Go.Proofs.Ytedhippamfioeaa.TopWaysL
open Go.ChangeShapes Go.WideShapes Go.ChangeAt Go.RowKit Go.Proofs.Ytedhippamfioeaa.Kit Go.Proofs.Ytedhippamfioeaa.App Go.Proofs.Ytedhippamfioeaa.Cells Go.Proofs.Ytedhippamfioeaa.Err Go.Proofs.Ytedhippamfioeaa.Vector Go.Proofs.Ytedhippamfioeaa.Spf Go.Proofs.Ytedhippamfioeaa.Stp Go.Proofs.Ytedhippamfioeaa.Rpf
set_option linter.unusedVariables false
set_option maxRecDepth 20000
set_option maxHeartbeats 4000000

abbrev Law (n : Int) (p : Option Addr) (m cap : Nat) (s : Int) (w : World) : Prop := Calls Try.prog 6 #[.int .i64 n, .slice p m cap, .int .i64 s] w fun e w' => e = .returned (.bool true) ∧ Below w.heap.size w w'
def two : List Lk := [⟨0, 1, 7⟩]
theorem two_code : code 2 two = 0 := by decide +kernel
theorem two_good : Vector.Good 2 two := by
  obtain ⟨m, h1, h2⟩ := good_of two_code
  obtain rfl : m = 2 := by omega
  exact h2
theorem two_row : rw1 2 (D two 1 0) = [0, 7] := by decide +kernel
theorem two_lit (w : World) : CI layL (w.alloc (.cells #[.int .i64 0, .int .i64 1, .int .i64 7] 38)) (some ⟨w.heap.size, 0, none⟩) 1 two := lit_links w two 38 (by decide)
theorem far_root {n : Nat} {ls : List Lk} (g : Vector.Good n ls) (i s : Nat) : rt ls i = rt ls s ↔ ds ls s i ≠ 1000 := by
  constructor
  · intro h
    have h1 := (rt_is g i).1
    have h2 := (rt_is g s).1
    rw [h] at h1
    rw [ds_sym g s i]
    intro e
    have h3 := (conn g h1 s).1 e
    rw [ds_sym g (rt ls s) s] at h3
    exact h2 h3
  · intro h
    rw [ds_sym g s i] at h
    exact rt_same g h
theorem law_bad (n s : Int) (p : Option Addr) (m cap : Nat) (ls : List Lk) (w : World) (hm : m = ls.length) (hi : CI layL w p cap ls) (hs : (Lit.int .i64 s).wf = true) (c : Int) (hc : code n ls = c) (h0 : c ≠ 0) : Law n p m cap s w := by
  have hlm := hi.len_le
  rw [← hm] at hlm
  have hw : wrong n ls [s] = c := by unfold wrong; rw [if_neg (by rw [hc]; exact h0), hc]
  have h2 : code2 n ls 8 = c := by unfold code2; rw [if_neg (by rw [hc]; exact h0), hc]
  have RO := Lib.hid (fun W (hW : Below w.heap.size w W) => rounds_bad n 8 p cap m ls W hm (hi.below hW) c h2 h0)
  have FR := Lib.hid (fun W (hW : Below w.heap.size w W) => from_bad n s p cap m ls W hm (hi.below hW) hs c hw h0)
  have FL := Lib.hid (fun W (hW : Below w.heap.size w W) => flood_bad n s p cap m ls W hm (hi.below hW) hs c hw h0)
  have TB := Lib.hid (fun W (hW : Below w.heap.size w W) => tree_bad n p cap m ls W hm (hi.below hW) c hc h0)
  rw [er_ne h0] at RO FR FL TB
  clear hm hi hs hc h0 hw h2
  have HB0 := Lib.hid (balloc (brefl w) (.cells #[.int .i64 0, .int .i64 1, .int .i64 7] 38))
  have HT0 := Lib.hid (two_lit w)
  have RA := Lib.hid (fun W (hW : CI layL W (some ⟨w.heap.size, 0, none⟩) 1 two) => rounds_good 2 1 (some ⟨w.heap.size, 0, none⟩) 1 1 two W two_good rfl hW (by decide))
  rw [show ((2 : Nat) : Int) = 2 from rfl, show ((1 : Nat) : Int) = 1 from rfl] at RA
  unfold Law
  go_enter Try.func6, Try.ntmps6
  go_wp2_with fail
  refine (RA.out _ HT0.out).mono ?_; rintro e w1 ⟨b, rfl, hr, hb⟩
  have HB1 := Lib.hid (bcall HB0.out hb)
  obtain ⟨b2, off, e2, hlt, hrow⟩ := hr.2.2 (by rw [rows_len]; decide)
  injection e2 with e2
  injection e2 with e3 e4
  subst e3; subst e4
  obtain ⟨q, cq, hc, iq⟩ := hrow 0 (by rw [rows_len]; decide)
  rw [rows_get _ _ (by decide), two_row] at hc iq
  have hc : w1.cell? ⟨b, 0, none⟩ = some (.slice q 2 cq) := hc
  have IQ := Lib.hid iq
  have S1 := Lib.hid (fun W (hW : Ints W q cq [0, 7]) q2 (hq : Ints W q2 2 [0, 7]) => ints_any q q2 cq 2 2 2 [0, 7] [0, 7] W rfl rfl hW hq true (by decide))
  have A1 := Lib.hid (fun W => lit_ints W [0, 7] (by decide) (by decide))
  clear RA HB0 HT0 hr hb hrow iq hlt
  go_wp2_with fail
  refine (S1.out _ (IQ.out.below (balloc (brefl w1) _)) _ (A1.out w1)).mono ?_; rintro e w2 ⟨rfl, hb⟩
  have HB2 := Lib.hid (bcall (balloc HB1.out _) hb)
  clear hb IQ HB1 S1 A1 hc
  go_wp2_with fail
  refine (RO.out w2 HB2.out).mono ?_; rintro e w3 ⟨rfl, hb⟩
  have HB3 := Lib.hid (bcall HB2.out hb)
  clear RO HB2 hb
  go_wp2_with fail
  refine (FR.out w3 HB3.out).mono ?_; rintro e w4 ⟨rfl, hb⟩
  have HB4 := Lib.hid (bcall HB3.out hb)
  clear FR HB3 hb
  go_wp2_with fail
  refine (FL.out w4 HB4.out).mono ?_; rintro e w5 ⟨rfl, hb⟩
  have HB5 := Lib.hid (bcall HB4.out hb)
  clear FL HB4 hb
  go_wp2_with fail
  refine (TB.out w5 HB5.out).mono ?_; rintro e w6 ⟨rfl, hb⟩
  have HB6 := Lib.hid (bcall HB5.out hb)
  clear TB HB5 hb
  go_wp2_with fail
  go_ret
  exact ⟨by first | rfl | simp, HB6.out⟩
theorem law_out (n : Nat) (s : Int) (p : Option Addr) (m cap : Nat) (ls : List Lk) (w : World) (hm : m = ls.length) (hi : CI layL w p cap ls) (hs : (Lit.int .i64 s).wf = true) (g : Vector.Good n ls) (hso : ¬ (0 ≤ s ∧ s ≤ (n : Int) - 1)) : Law n p m cap s w := by
  have hlm := hi.len_le
  rw [← hm] at hlm
  have hwr : wrong (n : Int) ls [s] = 1 := by
    unfold wrong
    rw [if_pos (code_good g)]
    unfold outs
    rw [if_pos (by omega)]
  have hn8 := g.up
  have RO := Lib.hid (fun W (hW : Below w.heap.size w W) => rounds_good n 8 p cap m ls W g hm (hi.below hW) (by decide))
  rw [show ((8 : Nat) : Int) = 8 from rfl] at RO
  have FR := Lib.hid (fun W (hW : Below w.heap.size w W) => from_bad (n : Int) s p cap m ls W hm (hi.below hW) hs 1 hwr (by decide))
  have FL := Lib.hid (fun W (hW : Below w.heap.size w W) => flood_bad (n : Int) s p cap m ls W hm (hi.below hW) hs 1 hwr (by decide))
  have TR := Lib.hid (fun W (hW : Below w.heap.size w W) => tree_good n p cap m ls W hm (hi.below hW) g)
  have hw1 : IntKind.i64.wrap ((n : Int) - 1) = (n : Int) - 1 := wrap_in (n := (n : Int) - 1) ⟨by omega, by omega⟩
  have IN := Lib.hid (fun W => int_any s 0 ((n : Int) - 1) W false (in_false hso))
  rw [er_1] at FR FL
  clear hm hi hs hwr g hso
  have HB0 := Lib.hid (balloc (brefl w) (.cells #[.int .i64 0, .int .i64 1, .int .i64 7] 38))
  have HT0 := Lib.hid (two_lit w)
  have RA := Lib.hid (fun W (hW : CI layL W (some ⟨w.heap.size, 0, none⟩) 1 two) => rounds_good 2 1 (some ⟨w.heap.size, 0, none⟩) 1 1 two W two_good rfl hW (by decide))
  rw [show ((2 : Nat) : Int) = 2 from rfl, show ((1 : Nat) : Int) = 1 from rfl] at RA
  unfold Law
  go_enter Try.func6, Try.ntmps6
  go_wp2_with fail
  refine (RA.out _ HT0.out).mono ?_; rintro e w1 ⟨b, rfl, hr, hb⟩
  have HB1 := Lib.hid (bcall HB0.out hb)
  obtain ⟨b2, off, e2, hlt, hrow⟩ := hr.2.2 (by rw [rows_len]; decide)
  injection e2 with e2
  injection e2 with e3 e4
  subst e3; subst e4
  obtain ⟨q, cq, hc, iq⟩ := hrow 0 (by rw [rows_len]; decide)
  rw [rows_get _ _ (by decide), two_row] at hc iq
  have hc : w1.cell? ⟨b, 0, none⟩ = some (.slice q 2 cq) := hc
  have IQ := Lib.hid iq
  have S1 := Lib.hid (fun W (hW : Ints W q cq [0, 7]) q2 (hq : Ints W q2 2 [0, 7]) => ints_any q q2 cq 2 2 2 [0, 7] [0, 7] W rfl rfl hW hq true (by decide))
  have A1 := Lib.hid (fun W => lit_ints W [0, 7] (by decide) (by decide))
  clear RA HB0 HT0 hr hb hrow iq hlt
  go_wp2_with fail
  refine (S1.out _ (IQ.out.below (balloc (brefl w1) _)) _ (A1.out w1)).mono ?_; rintro e w2 ⟨rfl, hb⟩
  have HB2 := Lib.hid (bcall (balloc HB1.out _) hb)
  clear hb IQ HB1 S1 A1 hc
  go_wp2_with fail
  refine (RO.out w2 HB2.out).mono ?_; rintro e w3 ⟨br, rfl, hr, hb⟩
  have HB3 := Lib.hid (bcall HB2.out hb)
  have HRW := Lib.hid hr
  clear RO HB2 hb hr
  go_wp2_with fail
  refine (FR.out w3 HB3.out).mono ?_; rintro e w4 ⟨rfl, hb⟩
  have HB4 := Lib.hid (bcall HB3.out hb)
  clear FR HB3 hb
  go_wp2_with fail
  refine (FL.out w4 HB4.out).mono ?_; rintro e w5 ⟨rfl, hb⟩
  have HB5 := Lib.hid (bcall HB4.out hb)
  clear FL HB4 hb
  go_wp2_with fail
  refine (TR.out w5 HB5.out).mono ?_; rintro e w6 ⟨u, v, x, rfl, ht⟩
  have HB6 := Lib.hid (bcall HB5.out ht.bel)
  obtain ⟨pu, cu, rfl, iu⟩ := ht.o1.form
  obtain ⟨pv, cv, rfl, iv⟩ := ht.o2.form
  obtain ⟨px, cx, rfl, ix⟩ := ht.o3.form
  rw [rw1_len, rw1_len, rw1_len]
  clear TR HB5 ht iu iv ix
  go_wp2_with fail
  refine (IN.out w6).mono ?_; rintro e w7 ⟨rfl, hw7⟩
  rw [hw7]
  clear hw7
  go_wp2_with fail
  go_ret
  exact ⟨by first | rfl | simp, HB6.out⟩
theorem law_good (n s : Nat) (p : Option Addr) (m cap : Nat) (ls : List Lk) (w : World) (hm : m = ls.length) (hi : CI layL w p cap ls) (g : Vector.Good n ls) (hs : s < n) : Law n p m cap s w := by
  have hlm := hi.len_le
  rw [← hm] at hlm
  have hn8 := g.up
  have hn1 := g.lo
  have RO := Lib.hid (fun W (hW : Below w.heap.size w W) => rounds_good n 8 p cap m ls W g hm (hi.below hW) (by decide))
  rw [show ((8 : Nat) : Int) = 8 from rfl] at RO
  have FR := Lib.hid (fun W (hW : Below w.heap.size w W) => from_good n s p cap m ls W hm (hi.below hW) g hs)
  have FL := Lib.hid (fun W (hW : Below w.heap.size w W) => flood_good (s := s) p cap m W hm (hi.below hW) g hs)
  have TR := Lib.hid (fun W (hW : Below w.heap.size w W) => tree_good n p cap m ls W hm (hi.below hW) g)
  have hw1 : IntKind.i64.wrap ((n : Int) - 1) = (n : Int) - 1 := wrap_in (n := (n : Int) - 1) ⟨by omega, by omega⟩
  have IN := Lib.hid (fun (a : Nat) (ha : a < n) W => int_any (a : Int) 0 ((n : Int) - 1) W true (in_true ⟨by omega, by omega⟩))
  have u0 : ((n : Int) != (n : Int)) = false := by simp
  have hs' : (s : Int) < (n : Int) := by omega
  have HG := Lib.hid g
  have HS := Lib.hid hs
  clear hm hi g
  have HB0 := Lib.hid (balloc (brefl w) (.cells #[.int .i64 0, .int .i64 1, .int .i64 7] 38))
  have HT0 := Lib.hid (two_lit w)
  have RA := Lib.hid (fun W (hW : CI layL W (some ⟨w.heap.size, 0, none⟩) 1 two) => rounds_good 2 1 (some ⟨w.heap.size, 0, none⟩) 1 1 two W two_good rfl hW (by decide))
  rw [show ((2 : Nat) : Int) = 2 from rfl, show ((1 : Nat) : Int) = 1 from rfl] at RA
  unfold Law
  go_enter Try.func6, Try.ntmps6
  go_wp2_with fail
  refine (RA.out _ HT0.out).mono ?_; rintro e w1 ⟨b, rfl, hr, hb⟩
  have HB1 := Lib.hid (bcall HB0.out hb)
  obtain ⟨b2, off, e2, hlt, hrow⟩ := hr.2.2 (by rw [rows_len]; decide)
  injection e2 with e2
  injection e2 with e3 e4
  subst e3; subst e4
  obtain ⟨q, cq, hc, iq⟩ := hrow 0 (by rw [rows_len]; decide)
  rw [rows_get _ _ (by decide), two_row] at hc iq
  have hc : w1.cell? ⟨b, 0, none⟩ = some (.slice q 2 cq) := hc
  have IQ := Lib.hid iq
  have S1 := Lib.hid (fun W (hW : Ints W q cq [0, 7]) q2 (hq : Ints W q2 2 [0, 7]) => ints_any q q2 cq 2 2 2 [0, 7] [0, 7] W rfl rfl hW hq true (by decide))
  have A1 := Lib.hid (fun W => lit_ints W [0, 7] (by decide) (by decide))
  clear RA HB0 HT0 hr hb hrow iq hlt
  go_wp2_with fail
  refine (S1.out _ (IQ.out.below (balloc (brefl w1) _)) _ (A1.out w1)).mono ?_; rintro e w2 ⟨rfl, hb⟩
  have HB2 := Lib.hid (bcall (balloc HB1.out _) hb)
  clear hb IQ HB1 S1 A1 hc
  go_wp2_with fail
  refine (RO.out w2 HB2.out).mono ?_; rintro e w3 ⟨br, rfl, hr, hb⟩
  have HB3 := Lib.hid (bcall HB2.out hb)
  have HRW := Lib.hid hr
  clear RO HB2 hb hr
  go_wp2_with fail
  refine (FR.out w3 HB3.out).mono ?_; rintro e w4 ⟨uf, vf, rfl, huf, hvf, hb⟩
  have HB4 := Lib.hid (bcall HB3.out hb)
  have HB34 := Lib.hid hb
  obtain ⟨pf, cf, rfl, iff_⟩ := huf
  obtain ⟨ph, ch, rfl, ih⟩ := hvf
  rw [rw1_len, rw1_len]
  have IF4 := Lib.hid iff_
  clear FR HB3 hb iff_ ih
  go_wp2_with fail
  refine (FL.out w4 HB4.out).mono ?_; rintro e w5 ⟨uc, rfl, huc, hb⟩
  have HB5 := Lib.hid (bcall HB4.out hb)
  have HB35 := Lib.hid (bcall HB34.out hb)
  have IF5 := Lib.hid (IF4.out.below hb)
  obtain ⟨pc, cc, rfl, ic⟩ := huc.form
  rw [cps_len]
  have IC5 := Lib.hid ic
  generalize sent n ls s = k0
  clear FL HB4 hb huc ic IF4 HB34
  go_wp2_with fail
  refine (TR.out w5 HB5.out).mono ?_; rintro e w6 ⟨u, v, x, rfl, ht⟩
  have HB6 := Lib.hid (bcall HB5.out ht.bel)
  have HB36 := Lib.hid (bcall HB35.out ht.bel)
  have IF6 := Lib.hid (IF5.out.below ht.bel)
  have IC6 := Lib.hid (IC5.out.below ht.bel)
  have HR6 := Lib.hid (HRW.out.below HB36.out)
  obtain ⟨pu, cu, rfl, iu⟩ := ht.o1.form
  obtain ⟨pv, cv, rfl, iv⟩ := ht.o2.form
  obtain ⟨px, cx, rfl, ix⟩ := ht.o3.form
  rw [rw1_len, rw1_len, rw1_len]
  obtain ⟨bf, of, hpf, hbf, hcf⟩ := IF6.out.2.2.2 (by rw [rw1_len]; omega)
  obtain ⟨bc, oc, hpc, hbc, hcc⟩ := IC6.out.2.2.2 (by rw [cps_len]; omega)
  obtain ⟨bu, ou, hpu, hbu, hcu⟩ := iu.2.2.2 (by rw [rw1_len]; omega)
  obtain ⟨bv, ow, hpv, hbv, hcv⟩ := iv.2.2.2 (by rw [rw1_len]; omega)
  subst hpf; subst hpc; subst hpu; subst hpv
  have CF := Lib.hid (fun W (hW : Below w6.heap.size w6 W) j (hj : j < n) => (show W.cell? ⟨bf, of + j, none⟩ = some (.int .i64 (ds ls s j)) from by
    rw [hW.cell (p := ⟨bf, of + j, none⟩) hbf, hcf j (by rw [rw1_len]; exact hj), rw1_get _ _ hj]))
  have CC := Lib.hid (fun W (hW : Below w6.heap.size w6 W) j (hj : j < n) => (show W.cell? ⟨bc, oc + j, none⟩ = some (.int .i64 ((copies n ls s j : Nat) : Int)) from by
    rw [hW.cell (p := ⟨bc, oc + j, none⟩) hbc, hcc j (by rw [cps_len]; exact hj), cps_get _ _ hj]))
  have CU := Lib.hid (fun W (hW : Below w6.heap.size w6 W) j (hj : j < n) => (show W.cell? ⟨bu, ou + j, none⟩ = some (.int .i64 (rt ls j : Int)) from by
    rw [hW.cell (p := ⟨bu, ou + j, none⟩) hbu, hcu j (by rw [rw1_len]; exact hj), rw1_get _ _ hj]; rfl))
  have CV := Lib.hid (fun W (hW : Below w6.heap.size w6 W) j (hj : j < n) => (show W.cell? ⟨bv, ow + j, none⟩ = some (.int .i64 (fr ls j)) from by
    rw [hW.cell (p := ⟨bv, ow + j, none⟩) hbv, hcv j (by rw [rw1_len]; exact hj), rw1_get _ _ hj]))
  have hcapf : n ≤ cf := by have := IF6.out.1; rwa [rw1_len] at this
  have hcapc : n ≤ cc := by have := IC6.out.1; rwa [cps_len] at this
  have hcapu : n ≤ cu := by have := iu.1; rwa [rw1_len] at this
  have hcapv : n ≤ cv := by have := iv.1; rwa [rw1_len] at this
  have hrs := rt_lt HG.out HS.out
  have HRS := Lib.hid hrs
  have us := CU.out w6 (brefl _) s HS.out
  obtain ⟨r, hr⟩ : ∃ r, rt ls s = r := ⟨_, rfl⟩
  rw [hr] at us hrs
  have HRR := Lib.hid hr
  have IN1 := Lib.hid (fun W => IN.out s HS.out W)
  have IN2 := Lib.hid (fun W => IN.out r hrs W)
  clear TR HB5 ht iu iv ix hbf hcf hbc hcc hbu hcu hbv hcv IF5 IC5 IC6 HB35 hr HRW
  go_wp2_with fail
  refine (IN1.out w6).mono ?_; rintro e w7 ⟨rfl, hw7⟩
  rw [hw7]
  clear hw7
  go_wp2_with fail
  refine (IN2.out w6).mono ?_; rintro e w7 ⟨rfl, hw7⟩
  rw [hw7]
  clear hw7 IN IN1 IN2
  go_wp2_with fail
  clear us
  go_loopw [21] (fun iv wr => ∃ i : Nat, i ≤ n ∧ iv = .int .i64 i ∧ Hid (Below w6.heap.size w6 wr)) (fun i _ => n - (intOf i).toNat)
  case atStart => exact ⟨0, Nat.zero_le _, rfl, Lib.hid (brefl _)⟩
  case round =>
    obtain ⟨i, hin, rfl, HR⟩ := hrel
    by_cases hlt : i < n
    · have v0 : decide ((i : Int) < (n : Int)) = true := decide_eq_true (by omega)
      have v1 : (i : Int) < (n : Int) := by omega
      have ci := CC.out wr HR.out i hlt
      have fi := CF.out wr HR.out i hlt
      have ri := CU.out wr HR.out i hlt
      have rs := CU.out wr HR.out s HS.out
      have t4 : (((rt ls i : Nat) : Int) == ((rt ls s : Nat) : Int)) = decide (ds ls s i < 1000) := by
        have h1 := far_root HG.out i s
        have h2 := ds_top HG.out s i
        rw [Bool.eq_iff_iff, beq_iff_eq, decide_eq_true_eq]
        omega
      have t1 : (((i : Int) != (s : Int)) = false) ∨ (((i : Int) != (s : Int)) = true ∧ decide (((copies n ls s i : Nat) : Int) > 0) = decide (ds ls s i < 1000)) := by
        by_cases e : i = s
        · exact .inl (by rw [e]; simp)
        · refine .inr ⟨by rw [bne_iff_ne]; omega, ?_⟩
          have h1 := copies_pos HG.out (s := s) e
          have h2 := ds_top HG.out s i
          rw [ds_sym HG.out i s] at h1
          rw [decide_eq_decide]
          omega
      have HRD := Lib.hid (fun q => bdrewN HR.out q)
      obtain ⟨x, hx⟩ : ∃ x, ((copies n ls s i : Nat) : Int) = x := ⟨_, rfl⟩
      obtain ⟨y, hy⟩ : ∃ y, ds ls s i = y := ⟨_, rfl⟩
      obtain ⟨z1, hz1⟩ : ∃ z, ((rt ls i : Nat) : Int) = z := ⟨_, rfl⟩
      obtain ⟨z2, hz2⟩ : ∃ z, ((rt ls s : Nat) : Int) = z := ⟨_, rfl⟩
      rw [hx, hy] at t1
      rw [hy, hz1, hz2] at t4
      rw [hx] at ci
      rw [hy] at fi
      rw [hz1] at ri
      rw [hz2] at rs
      obtain ⟨bb, hbb⟩ : ∃ bb, decide (y < 1000) = bb := ⟨_, rfl⟩
      rw [hbb] at t1 t4
      have t5 : (bb != bb) = false := by simp
      clear hx hy hz1 hz2
      rcases t1 with t1 | ⟨t1, t2⟩
      all_goals
        go_wp2_with fail
        go_quiet (fail)
        go_wp2_with fail
        go_roundw
        case rel => exact ⟨i + 1, by omega, by first | rfl | go_num, Lib.hid (HRD.out _)⟩
        case measure => simp [intOf]; omega
    · obtain rfl : i = n := by omega
      have v0 : decide ((i : Int) < (i : Int)) = false := decide_eq_false (by omega)
      have hRW := HR6.out.below HR.out
      obtain ⟨b9, o9, e9, hlt9, hrow⟩ := hRW.2.2 (by rw [rows_len]; omega)
      injection e9 with e9
      injection e9 with e91 e92
      subst e91; subst e92
      obtain ⟨q9, c9, hc9, i9⟩ := hrow s (by rw [rows_len]; exact HS.out)
      rw [rows_get _ _ HS.out] at hc9 i9
      rw [rw1_len, Nat.zero_add] at hc9
      have HLT9 := Lib.hid hlt9
      have SM := Lib.hid (fun k => ints_any q9 (some ⟨bf, of, none⟩) c9 cf i i (rw1 i (D ls 8 s)) (rw1 i (ds ls s)) (wr.drewN k) (by rw [rw1_len]) (by rw [rw1_len]) (i9.below (bdrewN (brefl wr) k)) ((IF6.out.below HR.out).below (bdrewN (brefl wr) k)) true (by simp))
      have CVS := Lib.hid (fun W (hW : Below wr.heap.size wr W) => CV.out W (bcall HR.out hW) s HS.out)
      have CUS := Lib.hid (fun W (hW : Below wr.heap.size wr W) => CU.out W (bcall HR.out hW) s HS.out)
      have CFR := Lib.hid (fun W (hW : Below wr.heap.size wr W) => CF.out W (bcall HR.out hW) (rt ls s) HRS.out)
      have HBF := Lib.hid (bcall HB6.out HR.out)
      rw [HRR.out] at CUS CFR
      have hrn := hrs
      have hrn' : (r : Int) < (i : Int) := by omega
      obtain ⟨y, hy⟩ : ∃ y, fr ls s = y := ⟨_, rfl⟩
      have hy2 : ds ls s r = y := by rw [← hy, ← HRR.out]; rfl
      rw [hy] at CVS
      rw [hy2] at CFR
      have e5 : (y == y) = true := by simp
      clear hRW hrow i9 hy hy2 hlt9 CV CU CF CC
      go_wp2_with fail
      refine wp_region_held_drew (S := (fun W' => W'.cell? ⟨br, s, none⟩ = some (.slice q9 i c9) ∧ W'.cell? ⟨bv, ow + s, none⟩ = some (.int .i64 y) ∧ W'.cell? ⟨bu, ou + s, none⟩ = some (.int .i64 (r : Int)) ∧ W'.cell? ⟨bf, of + r, none⟩ = some (.int .i64 y))) (by kernel_rfl) (⟨hc9, CVS.out wr (brefl _), CUS.out wr (brefl _), CFR.out wr (brefl _)⟩) (fun hHeld => ?_)
      refine wpAnyH_take (i := 0) (oi := ⟨some 199, _, _, _, _, _⟩) (v := ?vr10) rfl (by kernel_rfl) (by kernel_rfl) (by kernel_rfl) (fun _ _ _ h => h) (Or.inl ⟨by rfl, ?hyr10⟩) hHeld ?restr10
      case hyr10 => (intro W hSw; (try dsimp only at hSw); (try obtain ⟨hSw1, hSw2⟩ := hSw); (try obtain ⟨hSw2, hSw3⟩ := hSw2); (try obtain ⟨hSw3, hSw4⟩ := hSw3); go_simp; first | done | with_reducible rfl)
      simp only [Act.put, List.setIfInBounds_toArray, List.set_cons_zero, List.set_cons_succ]
      refine wpAnyH_take (i := 1) (oi := ⟨some 200, _, _, _, _, _⟩) (v := ?vr11) rfl (by kernel_rfl) (by kernel_rfl) (by kernel_rfl) (fun _ _ _ h => h) (Or.inl ⟨by rfl, ?hyr11⟩) hHeld ?restr11
      case hyr11 => (intro W hSw; (try dsimp only at hSw); (try obtain ⟨hSw1, hSw2⟩ := hSw); (try obtain ⟨hSw2, hSw3⟩ := hSw2); (try obtain ⟨hSw3, hSw4⟩ := hSw3); go_simp; first | done | with_reducible rfl)
      simp only [Act.put, List.setIfInBounds_toArray, List.set_cons_zero, List.set_cons_succ]
      refine wpAnyH_take (i := 2) (oi := ⟨some 201, _, _, _, _, _⟩) (v := ?vr12) rfl (by kernel_rfl) (by kernel_rfl) (by kernel_rfl) (fun _ _ _ h => h) (Or.inl ⟨by rfl, ?hyr12⟩) hHeld ?restr12
      case hyr12 => (intro W hSw; (try dsimp only at hSw); (try obtain ⟨hSw1, hSw2⟩ := hSw); (try obtain ⟨hSw2, hSw3⟩ := hSw2); (try obtain ⟨hSw3, hSw4⟩ := hSw3); go_simp; first | done | with_reducible rfl)
      simp only [Act.put, List.setIfInBounds_toArray, List.set_cons_zero, List.set_cons_succ]
      refine wpAnyH_take (i := 3) (oi := ⟨some 202, _, _, _, _, _⟩) (v := ?vr13) rfl (by kernel_rfl) (by kernel_rfl) (by kernel_rfl) (fun _ _ _ h => h) (Or.inl ⟨by rfl, ?hyr13⟩) hHeld ?restr13
      case hyr13 => (intro W hSw; (try dsimp only at hSw); (try obtain ⟨hSw1, hSw2⟩ := hSw); (try obtain ⟨hSw2, hSw3⟩ := hSw2); (try obtain ⟨hSw3, hSw4⟩ := hSw3); go_simp; first | done | with_reducible rfl)
      simp only [Act.put, List.setIfInBounds_toArray, List.set_cons_zero, List.set_cons_succ]
      refine wpAnyH_take (i := 4) (oi := ⟨some 203, _, _, _, _, _⟩) (v := ?vr14) rfl (by kernel_rfl) (by kernel_rfl) (by kernel_rfl) (fun _ _ _ h => h) (Or.inl ⟨by rfl, ?hyr14⟩) hHeld ?restr14
      case hyr14 => (intro W hSw; (try dsimp only at hSw); (try obtain ⟨hSw1, hSw2⟩ := hSw); (try obtain ⟨hSw2, hSw3⟩ := hSw2); (try obtain ⟨hSw3, hSw4⟩ := hSw3); go_simp; first | done | with_reducible rfl)
      simp only [Act.put, List.setIfInBounds_toArray, List.set_cons_zero, List.set_cons_succ]
      refine wpAnyH_ready (rs := [5]) (by kernel_rfl) (by simp) ?_
      refine AllReadyH.cons (o := ⟨some 204, _, _, _, _, _⟩) rfl (fun KK hK => ?_) AllReadyH.nil
      go_simp
      refine (SM.out 1).mono ?_; rintro e w8 ⟨rfl, hb8⟩
      have HB8 := Lib.hid (show Below wr.heap.size wr w8 from bcall (bdrewN (brefl wr) 1) hb8)
      have hc8 : w8.cell? ⟨br, s, none⟩ = some (.slice q9 i c9) := (HB8.out.cell (p := ⟨br, s, none⟩) HLT9.out).trans hc9
      clear hb8
      go_wp2_with fail
      refine hK.out _ _ (⟨hc8, CVS.out w8 HB8.out, CUS.out w8 HB8.out, CFR.out w8 HB8.out⟩) (fun hHeld2 => ?_)
      clear hK KK
      try simp only [Act.put, List.setIfInBounds_toArray, List.set_cons_zero, List.set_cons_succ]
      refine wpAnyH_take (i := 6) (oi := ⟨some 205, _, _, _, _, _⟩) (v := ?vr16) rfl (by kernel_rfl) (by kernel_rfl) (by kernel_rfl) (fun _ _ _ h => h) (Or.inl ⟨by rfl, ?hyr16⟩) hHeld2 ?restr16
      case hyr16 => (intro W hSw; (try dsimp only at hSw); (try obtain ⟨hSw1, hSw2⟩ := hSw); (try obtain ⟨hSw2, hSw3⟩ := hSw2); (try obtain ⟨hSw3, hSw4⟩ := hSw3); go_simp; first | done | with_reducible rfl)
      simp only [Act.put, List.setIfInBounds_toArray, List.set_cons_zero, List.set_cons_succ]
      refine wpAnyH_take (i := 7) (oi := ⟨some 206, _, _, _, _, _⟩) (v := ?vr17) rfl (by kernel_rfl) (by kernel_rfl) (by kernel_rfl) (fun _ _ _ h => h) (Or.inl ⟨by rfl, ?hyr17⟩) hHeld2 ?restr17
      case hyr17 => (intro W hSw; (try dsimp only at hSw); (try obtain ⟨hSw1, hSw2⟩ := hSw); (try obtain ⟨hSw2, hSw3⟩ := hSw2); (try obtain ⟨hSw3, hSw4⟩ := hSw3); go_simp; first | done | with_reducible rfl)
      simp only [Act.put, List.setIfInBounds_toArray, List.set_cons_zero, List.set_cons_succ]
      refine wpAnyH_take (i := 8) (oi := ⟨some 207, _, _, _, _, _⟩) (v := ?vr18) rfl (by kernel_rfl) (by kernel_rfl) (by kernel_rfl) (fun _ _ _ h => h) (Or.inl ⟨by rfl, ?hyr18⟩) hHeld2 ?restr18
      case hyr18 => (intro W hSw; (try dsimp only at hSw); (try obtain ⟨hSw1, hSw2⟩ := hSw); (try obtain ⟨hSw2, hSw3⟩ := hSw2); (try obtain ⟨hSw3, hSw4⟩ := hSw3); go_simp; first | done | with_reducible rfl)
      simp only [Act.put, List.setIfInBounds_toArray, List.set_cons_zero, List.set_cons_succ]
      refine wpAnyH_take (i := 9) (oi := ⟨some 208, _, _, _, _, _⟩) (v := ?vr19) rfl (by kernel_rfl) (by kernel_rfl) (by kernel_rfl) (fun _ _ _ h => h) (Or.inl ⟨by rfl, ?hyr19⟩) hHeld2 ?restr19
      case hyr19 => (intro W hSw; (try dsimp only at hSw); (try obtain ⟨hSw1, hSw2⟩ := hSw); (try obtain ⟨hSw2, hSw3⟩ := hSw2); (try obtain ⟨hSw3, hSw4⟩ := hSw3); go_simp; first | done | with_reducible rfl)
      simp only [Act.put, List.setIfInBounds_toArray, List.set_cons_zero, List.set_cons_succ]
      refine wpAnyH_take (i := 10) (oi := ⟨some 209, _, _, _, _, _⟩) (v := ?vr110) rfl (by kernel_rfl) (by kernel_rfl) (by kernel_rfl) (fun _ _ _ h => h) (Or.inl ⟨by rfl, ?hyr110⟩) hHeld2 ?restr110
      case hyr110 => (intro W hSw; (try dsimp only at hSw); (try obtain ⟨hSw1, hSw2⟩ := hSw); (try obtain ⟨hSw2, hSw3⟩ := hSw2); (try obtain ⟨hSw3, hSw4⟩ := hSw3); go_simp; first | done | with_reducible rfl)
      simp only [Act.put, List.setIfInBounds_toArray, List.set_cons_zero, List.set_cons_succ]
      refine wpAnyH_take (i := 11) (oi := ⟨some 210, _, _, _, _, _⟩) (v := ?vr111) rfl (by kernel_rfl) (by kernel_rfl) (by kernel_rfl) (fun _ _ _ h => h) (Or.inl ⟨by rfl, ?hyr111⟩) hHeld2 ?restr111
      case hyr111 => (intro W hSw; (try dsimp only at hSw); (try obtain ⟨hSw1, hSw2⟩ := hSw); (try obtain ⟨hSw2, hSw3⟩ := hSw2); (try obtain ⟨hSw3, hSw4⟩ := hSw3); go_simp; first | done | with_reducible rfl)
      simp only [Act.put, List.setIfInBounds_toArray, List.set_cons_zero, List.set_cons_succ]
      refine wpAnyH_take (i := 12) (oi := ⟨some 211, _, _, _, _, _⟩) (v := ?vr112) rfl (by kernel_rfl) (by kernel_rfl) (by kernel_rfl) (fun _ _ _ h => h) (Or.inl ⟨by rfl, ?hyr112⟩) hHeld2 ?restr112
      case hyr112 => (intro W hSw; (try dsimp only at hSw); (try obtain ⟨hSw1, hSw2⟩ := hSw); (try obtain ⟨hSw2, hSw3⟩ := hSw2); (try obtain ⟨hSw3, hSw4⟩ := hSw3); go_simp; first | done | with_reducible rfl)
      simp only [Act.put, List.setIfInBounds_toArray, List.set_cons_zero, List.set_cons_succ]
      refine wpAnyH_take (i := 13) (oi := ⟨some 212, _, _, _, _, _⟩) (v := ?vr113) rfl (by kernel_rfl) (by kernel_rfl) (by kernel_rfl) (fun _ _ _ h => h) (Or.inl ⟨by rfl, ?hyr113⟩) hHeld2 ?restr113
      case hyr113 => (intro W hSw; (try dsimp only at hSw); (try obtain ⟨hSw1, hSw2⟩ := hSw); (try obtain ⟨hSw2, hSw3⟩ := hSw2); (try obtain ⟨hSw3, hSw4⟩ := hSw3); go_simp; first | done | with_reducible rfl)
      simp only [Act.put, List.setIfInBounds_toArray, List.set_cons_zero, List.set_cons_succ]
      refine wpAnyH_take (i := 14) (oi := ⟨some 213, _, _, _, _, _⟩) (v := ?vr114) rfl (by kernel_rfl) (by kernel_rfl) (by kernel_rfl) (fun _ _ _ h => h) (Or.inl ⟨by rfl, ?hyr114⟩) hHeld2 ?restr114
      case hyr114 => (intro W hSw; (try dsimp only at hSw); (try obtain ⟨hSw1, hSw2⟩ := hSw); (try obtain ⟨hSw2, hSw3⟩ := hSw2); (try obtain ⟨hSw3, hSw4⟩ := hSw3); go_simp; first | done | with_reducible rfl)
      simp only [Act.put, List.setIfInBounds_toArray, List.set_cons_zero, List.set_cons_succ]
      refine wpAnyH_take (i := 15) (oi := ⟨some 214, _, _, _, _, _⟩) (v := ?vr115) rfl (by kernel_rfl) (by kernel_rfl) (by kernel_rfl) (fun _ _ _ h => h) (Or.inl ⟨by rfl, ?hyr115⟩) hHeld2 ?restr115
      case hyr115 => (intro W hSw; (try dsimp only at hSw); (try obtain ⟨hSw1, hSw2⟩ := hSw); (try obtain ⟨hSw2, hSw3⟩ := hSw2); (try obtain ⟨hSw3, hSw4⟩ := hSw3); go_simp; first | done | with_reducible rfl)
      simp only [Act.put, List.setIfInBounds_toArray, List.set_cons_zero, List.set_cons_succ]
      refine wpAnyH_take (i := 16) (oi := ⟨some 215, _, _, _, _, _⟩) (v := ?vr116) rfl (by kernel_rfl) (by kernel_rfl) (by kernel_rfl) (fun _ _ _ h => h) (Or.inl ⟨by rfl, ?hyr116⟩) hHeld2 ?restr116
      case hyr116 => (intro W hSw; (try dsimp only at hSw); (try obtain ⟨hSw1, hSw2⟩ := hSw); (try obtain ⟨hSw2, hSw3⟩ := hSw2); (try obtain ⟨hSw3, hSw4⟩ := hSw3); go_simp; first | done | with_reducible rfl)
      simp only [Act.put, List.setIfInBounds_toArray, List.set_cons_zero, List.set_cons_succ]
      refine wpAnyH_take (i := 17) (oi := ⟨some 216, _, _, _, _, _⟩) (v := ?vr117) rfl (by kernel_rfl) (by kernel_rfl) (by kernel_rfl) (fun _ _ _ h => h) (Or.inl ⟨by rfl, ?hyr117⟩) hHeld2 ?restr117
      case hyr117 => (intro W hSw; (try dsimp only at hSw); (try obtain ⟨hSw1, hSw2⟩ := hSw); (try obtain ⟨hSw2, hSw3⟩ := hSw2); (try obtain ⟨hSw3, hSw4⟩ := hSw3); go_simp; first | done | with_reducible rfl)
      simp only [Act.put, List.setIfInBounds_toArray, List.set_cons_zero, List.set_cons_succ]
      refine wpAnyH_take (i := 18) (oi := ⟨some 217, _, _, _, _, _⟩) (v := ?vr118) rfl (by kernel_rfl) (by kernel_rfl) (by kernel_rfl) (fun _ _ _ h => h) (Or.inl ⟨by rfl, ?hyr118⟩) hHeld2 ?restr118
      case hyr118 => (intro W hSw; (try dsimp only at hSw); (try obtain ⟨hSw1, hSw2⟩ := hSw); (try obtain ⟨hSw2, hSw3⟩ := hSw2); (try obtain ⟨hSw3, hSw4⟩ := hSw3); go_simp; first | done | with_reducible rfl)
      simp only [Act.put, List.setIfInBounds_toArray, List.set_cons_zero, List.set_cons_succ]
      refine wpAnyH_take (i := 19) (oi := ⟨some 218, _, _, _, _, _⟩) (v := ?vr119) rfl (by kernel_rfl) (by kernel_rfl) (by kernel_rfl) (fun _ _ _ h => h) (Or.inl ⟨by rfl, ?hyr119⟩) hHeld2 ?restr119
      case hyr119 => (intro W hSw; (try dsimp only at hSw); (try obtain ⟨hSw1, hSw2⟩ := hSw); (try obtain ⟨hSw2, hSw3⟩ := hSw2); (try obtain ⟨hSw3, hSw4⟩ := hSw3); go_simp; first | done | with_reducible rfl)
      simp only [Act.put, List.setIfInBounds_toArray, List.set_cons_zero, List.set_cons_succ]
      refine wpAnyH_take (i := 20) (oi := ⟨some 6, _, _, _, _, _⟩) (v := ?vr120) rfl (by kernel_rfl) (by kernel_rfl) (by kernel_rfl) (fun _ _ _ h => h) (Or.inl ⟨by rfl, ?hyr120⟩) hHeld2 ?restr120
      case hyr120 => (intro W hSw; (try dsimp only at hSw); (try obtain ⟨hSw1, hSw2⟩ := hSw); (try obtain ⟨hSw2, hSw3⟩ := hSw2); (try obtain ⟨hSw3, hSw4⟩ := hSw3); go_simp; first | done | with_reducible rfl)
      simp only [Act.put, List.setIfInBounds_toArray, List.set_cons_zero, List.set_cons_succ]
      refine wpAnyH_done (by kernel_rfl) ?_ _
      clear hHeld hHeld2
      go_wp2_with fail
      go_ret
      exact ⟨by first | rfl | simp, bcall HBF.out HB8.out⟩
theorem law_any (n s : Int) (p : Option Addr) (m cap : Nat) (ls : List Lk) (w : World) (hm : m = ls.length) (hi : CI layL w p cap ls) (hs : (Lit.int .i64 s).wf = true) : Law n p m cap s w := by
  by_cases hc : code n ls = 0
  · obtain ⟨N, rfl, g⟩ := good_of hc
    by_cases h : 0 ≤ s ∧ s ≤ (N : Int) - 1
    · obtain ⟨S, rfl⟩ : ∃ S : Nat, s = (S : Int) := ⟨s.toNat, by omega⟩
      exact law_good N S p m cap ls w hm hi g (by omega)
    · exact law_out N s p m cap ls w hm hi hs g h
  · exact law_bad n s p m cap ls w hm hi hs _ rfl hc

theorem reads : Try.f6.params.toList.all (fun t => Try.prog.readableRec t && decide (t < Try.prog.types.size)) = true := by kernel_rfl

theorem contract (H : Type) (enc : TypeId × Value → H) (W : World) (base : Nat) (args : Array Value) (ds gs : List (DataW H)) (before : List MemPlace)
    (hval : ∀ (j : Nat) t v, Try.f6.params[j]? = some t → args[j]? = some v → Value.okWide Try.prog W .any base t v)
    (hW : DataW.Whole enc Try.prog Try.f6.params.toList Rows.topWaysSpec.vars false W args.toList ds gs before) :
    Calls Try.prog 6 args W fun e W' => ∃ v, e = .returned v ∧ Rows.topWaysSpec.post enc Try.prog Try.f6 false true false false W args v W' := by
  have hW' := hW
  obtain ⟨p, q, hA0, hV, rfl, hfz, hnd⟩ := hW
  have hA : DataW.TrodAll enc Try.prog W 0 (fun _ => true) true Try.f6.params.toList args.toList ds p := hA0
  have hlt := hA.lt
  rw [Try.params6] at hA hval
  obtain ⟨v0, vs0, d0, ds0, p0, q0, hargs, rfl, rfl, h0, r0⟩ := trodAll_cons hA
  obtain ⟨v1, vs1, d1, ds1, p1, q1, hvs1, rfl, rfl, h1, r1⟩ := trodAll_cons r0
  obtain ⟨v2, vs2, d2, ds2, p2, q2, hvs2, rfl, rfl, h2, r2⟩ := trodAll_cons r1
  obtain ⟨hvsn, rfl, rfl⟩ := trodAll_nil r2
  simp only [hvsn, hvs2, hvs1] at hargs
  obtain rfl : args = #[v0, v1, v2] := by cases args; simp_all
  obtain ⟨rfl, rfl⟩ := trodVars_none hV
  clear hA0
  obtain ⟨a0, rfl, rfl, rfl, w0⟩ := open_int Try.underlying3 (hval 0 3 v0 rfl rfl) h0
  have b0 := bounds_int w0
  obtain ⟨p1a, cap1, l1, rfl, i1, e1⟩ := Go.Proofs.Ytedhippamfioeaa.Vector.open_links (hval 1 22 v1 rfl rfl) h1 (fun x hx => hlt x (by simp [hx]))
  obtain ⟨a2, rfl, rfl, rfl, w2⟩ := open_int Try.underlying3 (hval 2 3 v2 rfl rfl) h2
  have b2 := bounds_int w2
  exact law_post 4 laid reads rfl Try.underlying4 rfl hW' ⟨rfl, rfl, rfl⟩ (law_any a0 a2 p1a _ cap1 l1 W rfl i1 w2)

set_option maxRecDepth 100000 in
theorem lifted (os : Os) (started : os.Started) (H : Type) (enc : TypeId × Value → H) :
    ReturnsInHanded {} Try.checked os 6 .any (Rows.topWaysSpec.pre6 enc Try.prog Try.f6 Rows.topWaysRow.domain false) (Rows.topWaysSpec.post enc Try.prog Try.f6 false true false false) := by
  refine returnsInHanded_of_change (C := Try.checked) own started (by kernel_rfl) Try.func6
    (ChangeSpec.witness6 (enc := enc) (C := Try.checked) false ⟨#[], #[.int .i64 0, .slice none 0 0, .int .i64 0], []⟩ 8 (by kernel_rfl) (by kernel_rfl) (by kernel_rfl) (by kernel_rfl)) ?_
  intro W base args ds gs before hval hW _ _
  exact contract H enc W base args ds gs before hval hW

theorem proved : Rows.TopWaysSaid :=
  OpenClaim.holds_of_wide 6 Try.f6 rfl rfl rfl rfl rfl rfl rfl ⟨rfl, rfl, rfl, rfl, rfl⟩ rfl rfl rfl rfl rfl (by kernel_rfl) Try.func6 (by kernel_rfl)
    (of_decide_eq_true (by kernel_rfl)) (by unfold Func.isWrapper; first | (rw [if_pos (by decide +kernel)]; kernel_rfl) | (rw [if_neg (by decide +kernel)]; exact ⟨rfl, rfl⟩))
    (fun os started H enc _ => lifted os started H enc)
end Go.Proofs.Ytedhippamfioeaa.TopWaysL
