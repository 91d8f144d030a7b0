/- StpTree: what is used is a tree over all that hang together: for every input. No condition. -/
import Derived.Test.YthjhlemdmahlnaaStpFact
import Derived.Test.YthjhlemdmahlnaaStpMore
import Derived.Test.YthjhlemdmahlnaaIn3
import Derived.BigQuiet
import Derived.Test.YthjhlemdmahlnaaStpUse
import Derived.Test.YthjhlemdmahlnaaSpfFar
import Derived.Deep.RegionLaw
import Derived.Deep.RegionWith
namespace Go.Proofs.Ythjhlemdmahlnaa.StpTreeL
open Go.ChangeShapes Go.WideShapes Go.ChangeAt Go.RowKit Go.Proofs.Ythjhlemdmahlnaa.Kit Go.Proofs.Ythjhlemdmahlnaa.App Go.Proofs.Ythjhlemdmahlnaa.Cells Go.Proofs.Ythjhlemdmahlnaa.Err Go.Proofs.Ythjhlemdmahlnaa.Vector Go.Proofs.Ythjhlemdmahlnaa.Spf Go.Proofs.Ythjhlemdmahlnaa.Stp Go.Proofs.Ythjhlemdmahlnaa.Truth
set_option linter.unusedVariables false
set_option maxRecDepth 20000
set_option maxHeartbeats 2000000
abbrev Law (n : Int) (p : Option Addr) (m cap : Nat) (w : World) : Prop := Calls Try.prog 3 #[.int .i64 n, .slice p m cap] w fun e w' => e = .returned (.bool true) ∧ Below w.heap.size w w'
theorem law_bad (n : Int) (p : Option Addr) (m cap : Nat) (ls : List Lk) (w : World) (hm : m = ls.length) (hi : CI layL w p cap ls) (c : Int) (hc : code n ls = c) (h0 : c ≠ 0) : Law n p m cap w := by
  have hlm := hi.len_le
  rw [← hm] at hlm
  have TB := Lib.hid (fun W (hW : Below w.heap.size w W) => tree_bad n p cap m ls W hm (hi.below hW) c hc h0)
  have UB := Lib.hid (fun W (hW : Below w.heap.size w W) => used_bad n p cap m ls W hm (hi.below hW) c hc h0)
  rw [er_ne h0] at TB UB
  clear hm hi hc h0
  have FA := Lib.hid (Stp.fact_any w)
  unfold Law
  go_enter Try.func3, Try.ntmps3
  go_wp2_with fail
  refine FA.out.mono ?_; rintro e w1 ⟨rfl, hb1⟩
  have HB1 := Lib.hid hb1
  clear FA hb1
  go_wp2_with fail
  refine (TB.out w1 HB1.out).mono ?_; rintro e w2 ⟨rfl, hb⟩
  have HB2 := Lib.hid (bcall HB1.out hb)
  clear TB HB1 hb
  go_wp2_with fail
  refine (UB.out w2 HB2.out).mono ?_; rintro e w3 ⟨rfl, hb⟩
  have HB3 := Lib.hid (bcall HB2.out hb)
  clear UB HB2 hb
  go_wp2_with fail
  go_ret
  exact ⟨by first | rfl | simp, HB3.out⟩
theorem law_good (n : Nat) (p : Option Addr) (m cap : Nat) (ls : List Lk) (w : World) (hm : m = ls.length) (hi : CI layL w p cap ls) (g : Vector.Good n ls) : Law n p m cap w := by
  have hn8 := g.up
  have hn1 := g.lo
  have hm32 : m ≤ 32 := by rw [hm]; exact g.len
  have hlm := hi.len_le
  rw [← hm] at hlm
  have TR := Lib.hid (fun W (hW : Below w.heap.size w W) => tree_good n p cap m ls W hm (hi.below hW) g)
  have UR := Lib.hid (fun W (hW : Below w.heap.size w W) => used_good n p cap m ls W hm (hi.below hW) g)
  have hw1 : IntKind.i64.wrap ((n : Int) - 1) = (n : Int) - 1 := wrap_in (n := (n : Int) - 1) ⟨by omega, by omega⟩
  have u0 : ((m : Int) != (m : Int)) = false := by simp
  have u1 : ((n : Int) != (n : Int)) = false := by simp
  have HK := Lib.hid (keeps_of (ms := picks ls (us ls n) m) g (by rw [hm]; exact picks_sub ls.length (Nat.le_refl _)) (fun k hk hu => picks_mem m k (by omega) hu))
  have G2 := Lib.hid (show Vector.Good n (picks ls (us ls n) m) by rw [hm]; exact picks_good g _)
  have CT := Lib.hid (show (picks ls (us ls n) m).length + rts ls n = n by rw [hm]; exact count g)
  have IN := Lib.hid (fun (a b c : Int) W (h : a ≤ b ∧ b ≤ c) => Drr.in_any b a c W true (in_true h))
  have HG := Lib.hid g
  have HM := Lib.hid hm
  have HI := Lib.hid hi
  clear hm hi g
  have FA := Lib.hid (Stp.fact_any w)
  unfold Law
  go_enter Try.func3, Try.ntmps3
  go_wp2_with fail
  refine FA.out.mono ?_; rintro e w1 ⟨rfl, hb1⟩
  have HB1 := Lib.hid hb1
  clear FA hb1
  go_wp2_with fail
  refine (TR.out w1 HB1.out).mono ?_; rintro e w2 ⟨u, v, x, rfl, ht⟩
  have HB2 := Lib.hid (bcall HB1.out ht.bel)
  obtain ⟨pu, cu, rfl, iu⟩ := ht.o1.form
  obtain ⟨pv, cv, rfl, iv⟩ := ht.o2.form
  obtain ⟨px, cx, rfl, ix⟩ := ht.o3.form
  rw [rw1_len, rw1_len, rw1_len]
  have IU2 := Lib.hid iu
  have IV2 := Lib.hid iv
  have IX2 := Lib.hid ix
  clear TR HB1 ht iu iv ix
  go_wp2_with fail
  refine (UR.out w2 HB2.out).mono ?_; rintro e w3 ⟨t, rfl, ho, hb⟩
  have HB3 := Lib.hid (bcall HB2.out hb)
  have IU := Lib.hid (IU2.out.below hb)
  have IV := Lib.hid (IV2.out.below hb)
  have IX := Lib.hid (IX2.out.below hb)
  obtain ⟨pt, ct, rfl, it⟩ := ho.form
  rw [bl_len]
  have IT := Lib.hid it
  obtain ⟨bu, ou, rfl, hbu, hcu⟩ := IU.out.2.2.2 (by rw [rw1_len]; omega)
  obtain ⟨bv, ow, rfl, hbv, hcv⟩ := IV.out.2.2.2 (by rw [rw1_len]; omega)
  obtain ⟨bx, ox, rfl, hbx, hcx⟩ := IX.out.2.2.2 (by rw [rw1_len]; omega)
  have CU := Lib.hid (fun W (hW : Below w3.heap.size w3 W) j (hj : j < n) => (show W.cell? ⟨bu, ou + j, none⟩ = some (.int .i64 (rt ls j : Int)) from by
    rw [hW.cell (p := ⟨bu, ou + j, none⟩) hbu, hcu j (by rw [rw1_len]; exact hj), rw1_get _ _ hj]; rfl))
  have CV := Lib.hid (fun W (hW : Below w3.heap.size w3 W) j (hj : j < n) => (show W.cell? ⟨bv, ow + j, none⟩ = some (.int .i64 (fr ls j)) from by
    rw [hW.cell (p := ⟨bv, ow + j, none⟩) hbv, hcv j (by rw [rw1_len]; exact hj), rw1_get _ _ hj]))
  have CX := Lib.hid (fun W (hW : Below w3.heap.size w3 W) j (hj : j < n) => (show W.cell? ⟨bx, ox + j, none⟩ = some (.int .i64 (ov ls j)) from by
    rw [hW.cell (p := ⟨bx, ox + j, none⟩) hbx, hcx j (by rw [rw1_len]; exact hj), rw1_get _ _ hj]))
  clear hbu hcu hbv hcv hbx hcx
  have HO0 : Hid (OC layL 33 w3 w3.heap.size (.slice none 0 0) (picks ls (us ls n) 0)) := Lib.hid (OC.nil _ _ _ _)
  clear UR HB2 hb ho it IU2 IV2 IX2 IU IV IX
  go_wp2_with fail
  -- the links that are used
  go_loopw [12, 13] (fun ev iv wr => ∃ (k : Nat) (v : Value), k ≤ m ∧ iv = .int .i64 k ∧ v = ev ∧ Hid (OC layL 33 wr w3.heap.size v (picks ls (us ls n) k)) ∧ Hid (Below w3.heap.size w3 wr)) (fun _ i _ => m - (intOf i).toNat)
  case atStart => exact ⟨0, _, Nat.zero_le _, rfl, rfl, HO0, Lib.hid (brefl _)⟩
  case round =>
    obtain ⟨k, v, hk, rfl, rfl, HO, HR⟩ := hrel
    clear HO0
    by_cases hlt : k < m
    · have v0 : decide ((k : Int) < (m : Int)) = true := decide_eq_true (by omega)
      have v1 : (k : Int) < (m : Int) := by omega
      have hkl : k < ls.length := by rw [← HM.out]; exact hlt
      obtain ⟨bl0, off, rfl, hbl, hat⟩ := links_at HI.out (by omega)
      obtain ⟨x0, x1, x2⟩ := hat wr (bcall HB3.out HR.out) k hkl
      obtain ⟨bt, ot, rfl, _, htt⟩ := IT.out.at (by rw [bl_len]; omega)
      obtain ⟨t, ht⟩ : ∃ t, us ls n k = t := ⟨_, rfl⟩
      have ck := htt wr HR.out k t (by rw [bl_get hlt, ht])
      have HPL := Lib.hid (show (picks ls (us ls n) k).length ≤ 32 by rw [picks_len]; have h1 := List.length_filter_le (us ls n) (List.range k); rw [List.length_range] at h1; omega)
      clear hat htt hbl hkl
      cases t with
      | false =>
        have HE := Lib.hid (show picks ls (us ls n) (k + 1) = picks ls (us ls n) k by show (if _ then _ else _) = _; rw [ht]; rfl)
        clear ht
        go_wp2_with fail
        go_roundw
        case rel => exact ⟨k + 1, v, by omega, by first | rfl | go_num, rfl, Lib.hid (by rw [HE.out]; exact HO.out), HR⟩
        case measure => simp [intOf]; omega
      | true =>
        have HE := Lib.hid (show picks ls (us ls n) (k + 1) = picks ls (us ls n) k ++ [lk ls k] by show (if _ then _ else _) = _; rw [ht]; rfl)
        clear ht
        obtain ⟨x, hx⟩ : ∃ x, lk ls k = x := ⟨_, rfl⟩
        rw [hx] at x0 x1 x2 HE
        clear hx
        obtain ⟨A, hA⟩ : ∃ A, picks ls (us ls n) k = A := ⟨_, rfl⟩
        rw [hA] at HO HE HPL
        clear hA
        have hsz := HR.out.size
        go_wp2_with (at_builtin
                     refine wp_appC tyL rfl (.tmp 82) (.tmp 87) rfl w3.heap.size v A (some ⟨wr.heap.size, 0, none⟩) 1 1 [x] rfl (OC.alloc HO.out _) rfl rfl (CI.one layL wr x _) (by have := HPL.out; rw [List.length_singleton]; omega) (Nat.le_trans hsz (by simp)) ?_
                     intro v4 w4 hown4 hg4 hat4
                     have HO4 := Lib.hid hown4
                     have HB4 := Lib.hid (show Below w3.heap.size w3 w4 from below_oneC HR.out hsz _ HO.out hg4)
                     clear hown4 hg4 hat4)
        go_roundw
        case rel => exact ⟨k + 1, v4, by omega, by first | rfl | go_num, rfl, Lib.hid (by rw [HE.out]; exact HO4.out), HB4⟩
        case measure => simp [intOf]; omega
    · obtain rfl : k = m := by omega
      have v0 : decide ((k : Int) < (k : Int)) = false := decide_eq_false (by omega)
      obtain ⟨w4, hw4⟩ : ∃ z, z = wr := ⟨wr, rfl⟩
      rw [← hw4] at HO HR ⊢
      clear hw4 wr hlt
      obtain ⟨pl, cl, rfl, hil⟩ := HO.out.form
      obtain ⟨LF, hLF⟩ : ∃ LF, picks ls (us ls n) k = LF := ⟨_, rfl⟩
      rw [hLF] at hil HK G2 CT ⊢
      obtain ⟨q, hq⟩ : ∃ q, LF.length = q := ⟨_, rfl⟩
      have FR := Lib.hid (fun W (hW : Below w4.heap.size w4 W) i (hi : i < n) => rfar_ds n i pl cl q LF W G2.out hq.symm (hil.below hW) hi)
      rw [hq] at CT ⊢
      have hq8 : q ≤ 8 := by have := CT.out; omega
      have HBR := Lib.hid (bcall HB3.out HR.out)
      clear HO hil hLF IT hq
      go_wp2_with fail
      clear v0
      -- bridge by bridge
      go_loopw [14, 15] (fun ov iv wr => ∃ i : Nat, i ≤ n ∧ iv = .int .i64 i ∧ ov = .int .i64 (rts ls i : Int) ∧ Hid (Below w4.heap.size w4 wr)) (fun _ i _ => n - (intOf i).toNat)
      case atStart => exact ⟨0, Nat.zero_le _, rfl, rfl, Lib.hid (brefl _)⟩
      case round =>
        obtain ⟨i, hin, rfl, rfl, HQ⟩ := hrel
        by_cases hlt : i < n
        · have v0 : decide ((i : Int) < (n : Int)) = true := decide_eq_true (by omega)
          have v1 : (i : Int) < (n : Int) := by omega
          have hrl := rts_le (ls := ls) i
          obtain ⟨L, hL⟩ := trail_ex HG.out (rt_lt HG.out hlt) (ds ls i (rt ls i)).toNat i (by have := ds_nat HG.out i (rt ls i); omega) (rt_is HG.out i).1
          have hln := hL.len HG.out hlt
          have hll := hL.lt HG.out hlt
          have TU := Lib.hid (trail_up HG.out hL rfl)
          have hla := hL.last
          have h0 : L[0]?.getD 0 = i := by
            obtain ⟨tl, rfl⟩ := hL.head
            rfl
          have LT := Lib.hid (fun j (hj : j < L.length) => (show L[j]?.getD 0 < n by rw [List.getElem?_eq_getElem hj]; exact hll _ (List.getElem_mem hj)))
          obtain ⟨t, ht⟩ : ∃ t, L.length = t + 1 := ⟨L.length - 1, by omega⟩
          rw [ht, Nat.add_sub_cancel] at hla
          have HLA := Lib.hid (show L[t]?.getD 0 = rt ls i by rw [hla]; rfl)
          rw [ht] at TU LT
          have htn : t < n := by omega
          have H0 := Lib.hid h0
          clear hL hln hll hla h0 ht
          go_wp2_with fail
          -- over next hops to the root
          go_loopw [16, 17] (fun av sv wr => ∃ s : Nat, s ≤ t ∧ sv = .int .i64 s ∧ av = .int .i64 ((L[s]?.getD 0 : Nat) : Int) ∧ Hid (Below w4.heap.size w4 wr)) (fun _ s _ => t + 1 - (intOf s).toNat)
          case atStart => exact ⟨0, Nat.zero_le _, rfl, by rw [H0.out], HQ⟩
          case round =>
            obtain ⟨s, hst, rfl, rfl, HS⟩ := hrel
            clear HQ
            have y0 : decide ((s : Int) < (n : Int)) = true := decide_eq_true (by omega)
            have hat := LT.out s (by omega)
            have INS := Lib.hid (IN.out 0 ((L[s]?.getD 0 : Nat) : Int) ((n : Int) - 1) wr ⟨by omega, by omega⟩)
            have cx0 := CX.out wr (bcall HR.out HS.out) (L[s]?.getD 0) hat
            by_cases hlt2 : s < t
            · have hov := TU.out s (by omega)
              rw [hov] at cx0
              obtain ⟨b, hb⟩ : ∃ b, L[s + 1]?.getD 0 = b := ⟨_, rfl⟩
              rw [hb] at cx0
              have HBB := Lib.hid hb
              obtain ⟨a, ha⟩ : ∃ a, L[s]?.getD 0 = a := ⟨_, rfl⟩
              rw [ha] at cx0 hat INS ⊢
              have hat' : (a : Int) < (n : Int) := by omega
              have e1 : decide ((b : Int) ≥ 0) = true := decide_eq_true (by omega)
              clear hov hb ha
              go_wp2_with fail
              refine INS.out.mono ?_; rintro e w5 ⟨rfl, hw5⟩
              rw [hw5]
              clear hw5 w5 INS
              go_wp2_with fail
              go_roundw
              case rel => exact ⟨s + 1, by omega, by first | rfl | go_num, by rw [HBB.out], HS⟩
              case measure => simp [intOf]; omega
            · obtain rfl : s = t := by omega
              rw [HLA.out] at cx0 hat INS ⊢
              have hov : ov ls (rt ls i) = -1 := ov_none HG.out (rt_rt HG.out i)
              rw [hov] at cx0
              have cu0 := CU.out wr (bcall HR.out HS.out) i hlt
              have hle := rt_le HG.out i
              have INR := Lib.hid (IN.out 0 (rt ls i : Int) (i : Int) wr ⟨by omega, by omega⟩)
              have cv0 := CV.out wr (bcall HR.out HS.out) i hlt
              have hfb := fr_b HG.out i
              have FRD := Lib.hid (FR.out wr.drew (bdrewN HS.out 1) i hlt)
              have HGT := Lib.hid (show (rw1 n (ds LF i))[rt ls i]?.getD 0 = fr ls i by rw [rw1_get _ _ hat]; exact HK.out.far HG.out G2.out hlt)
              have HLN := Lib.hid (rw1_len n (ds LF i))
              have HRT := Lib.hid (show rts ls (i + 1) = if rt ls i = i then rts ls i + 1 else rts ls i from rfl)
              have HCU := Lib.hid (fun W hW => CU.out W hW i hlt)
              have HCV := Lib.hid (fun W hW => CV.out W hW i hlt)
              generalize rt ls i = r at *
              generalize fr ls i = f at *
              generalize rts ls i = z at *
              generalize rw1 n (ds LF i) = FL at *
              have hat' : (r : Int) < (n : Int) := by omega
              have e2 : ((r : Int) != (r : Int)) = false := by simp
              have e3 : (f != f) = false := by simp
              have hwz : IntKind.i64.wrap ((z : Int) + 1) = (z : Int) + 1 := wrap_in (n := (z : Int) + 1) ⟨by omega, by omega⟩
              have hn0 : n ≠ 0 := by omega
              clear hov TU LT H0 HLA hle hfb
              go_wp2_with fail
              refine INS.out.mono ?_; rintro e w5 ⟨rfl, hw5⟩
              rw [hw5]
              clear hw5 w5 INS
              go_wp2_with fail
              refine INR.out.mono ?_; rintro e w5 ⟨rfl, hw5⟩
              rw [hw5]
              clear hw5 w5 INR
              by_cases hri : r = i
              · have e4 : ((r : Int) == (i : Int)) = true := by rw [hri]; simp
                have HZ := Lib.hid (show rts ls (i + 1) = z + 1 by rw [HRT.out, if_pos hri])
                clear hri
                go_wp2_with fail
                go_region_law (first
                  | (go_simp; go_at_call 10; refine FRD.out.mono ?_; rintro e w7 ⟨q7, c7, rfl, i7, hb7⟩
                     obtain ⟨b7, o7, hq7, _, hc7⟩ := i7.2.2.2 (by rw [HLN.out]; omega)
                     subst hq7
                     have hd7 := hc7 r (by rw [HLN.out]; omega)
                     rw [HGT.out] at hd7
                     have HB7 := Lib.hid (show Below w4.heap.size w4 w7 from bcall HS.out (bcall (bdrewN (brefl wr) 1) hb7))
                     have cu7 := HCU.out w7 (bcall HR.out HB7.out)
                     have cv7 := HCV.out w7 (bcall HR.out HB7.out)
                     clear hb7 i7 hc7))
                all_goals
                  go_wp2_with fail
                  go_roundw
                  case rel => exact ⟨i + 1, by omega, by first | rfl | go_num, by rw [HZ.out] <;> first | rfl | go_num, HB7⟩
                  case measure => simp [intOf]; omega
              · have e4 : ((r : Int) == (i : Int)) = false := beq_eq_false_iff_ne.2 (by omega)
                have HZ := Lib.hid (show rts ls (i + 1) = z by rw [HRT.out, if_neg hri])
                clear hri
                go_wp2_with fail
                go_region_law (first
                  | (go_simp; go_at_call 10; refine FRD.out.mono ?_; rintro e w7 ⟨q7, c7, rfl, i7, hb7⟩
                     obtain ⟨b7, o7, hq7, _, hc7⟩ := i7.2.2.2 (by rw [HLN.out]; omega)
                     subst hq7
                     have hd7 := hc7 r (by rw [HLN.out]; omega)
                     rw [HGT.out] at hd7
                     have HB7 := Lib.hid (show Below w4.heap.size w4 w7 from bcall HS.out (bcall (bdrewN (brefl wr) 1) hb7))
                     have cu7 := HCU.out w7 (bcall HR.out HB7.out)
                     have cv7 := HCV.out w7 (bcall HR.out HB7.out)
                     clear hb7 i7 hc7))
                all_goals
                  go_wp2_with fail
                  go_roundw
                  case rel => exact ⟨i + 1, by omega, by first | rfl | go_num, by rw [HZ.out] <;> first | rfl | go_num, HB7⟩
                  case measure => simp [intOf]; omega
        · obtain rfl : i = n := by omega
          have v0 : decide ((i : Int) < (i : Int)) = false := decide_eq_false (by omega)
          have hct := CT.out
          have hw9 : IntKind.i64.wrap ((i : Int) - (rts ls i : Int)) = (q : Int) := by rw [wrap_in (n := (i : Int) - (rts ls i : Int)) ⟨by omega, by omega⟩]; omega
          have e5 : ((q : Int) == (q : Int)) = true := by simp
          have HBF := Lib.hid (bcall HBR.out HQ.out)
          generalize rts ls i = z at *
          clear hct CT
          go_wp2_with fail
          go_ret
          exact ⟨by first | rfl | simp, HBF.out⟩
theorem law_any (n : Int) (p : Option Addr) (m cap : Nat) (ls : List Lk) (w : World) (hm : m = ls.length) (hi : CI layL w p cap ls) : Law n p m cap w := by
  by_cases h : code n ls = 0
  · obtain ⟨N, rfl, g⟩ := good_of h
    exact law_good N p m cap ls w hm hi g
  · exact law_bad n p m cap ls w hm hi _ rfl h

theorem reads : Try.f3.params.toList.all (fun t => Try.prog.readableRec t && decide (t < Try.prog.types.size)) = true := by kernel_rfl

theorem contract (H : Type) (enc : TypeId × Value → H) (W : World) (base : Nat) (args : Array Value) (ds gs : List (DataW H)) (before : List MemPlace)
    (hval : ∀ (j : Nat) t v, Try.f3.params[j]? = some t → args[j]? = some v → Value.okWide Try.prog W .any base t v)
    (hW : DataW.Whole enc Try.prog Try.f3.params.toList Rows.stpTreeSpec.vars false W args.toList ds gs before) :
    Calls Try.prog 3 args W fun e W' => ∃ v, e = .returned v ∧ Rows.stpTreeSpec.post enc Try.prog Try.f3 false true false false W args v W' := by
  have hW' := hW
  obtain ⟨p, q, hA0, hV, rfl, hfz, hnd⟩ := hW
  have hA : DataW.TrodAll enc Try.prog W 0 (fun _ => true) true Try.f3.params.toList args.toList ds p := hA0
  have hlt := hA.lt
  rw [Try.params3] at hA hval
  obtain ⟨v0, vs0, d0, ds0, p0, q0, hargs, rfl, rfl, h0, r0⟩ := trodAll_cons hA
  obtain ⟨v1, vs1, d1, ds1, p1, q1, hvs1, rfl, rfl, h1, r1⟩ := trodAll_cons r0
  obtain ⟨hvsn, rfl, rfl⟩ := trodAll_nil r1
  simp only [hvsn, hvs1] at hargs
  obtain rfl : args = #[v0, v1] := by cases args; simp_all
  obtain ⟨rfl, rfl⟩ := trodVars_none hV
  clear hA0
  obtain ⟨a0, rfl, rfl, rfl, w0⟩ := open_int Try.underlying3 (hval 0 3 v0 rfl rfl) h0
  have b0 := bounds_int w0
  obtain ⟨p1a, cap1, l1, rfl, i1, e1⟩ := Go.Proofs.Ythjhlemdmahlnaa.Vector.open_links (hval 1 22 v1 rfl rfl) h1 (fun x hx => hlt x (by simp [hx]))
  exact law_post 4 laid reads rfl Try.underlying4 rfl hW' ⟨rfl, rfl, rfl⟩ (law_any a0 p1a _ cap1 l1 W rfl i1)

set_option maxRecDepth 100000 in
theorem lifted (os : Os) (started : os.Started) (H : Type) (enc : TypeId × Value → H) :
    ReturnsInHanded {} Try.checked os 3 .any (Rows.stpTreeSpec.pre6 enc Try.prog Try.f3 Rows.stpTreeRow.domain false) (Rows.stpTreeSpec.post enc Try.prog Try.f3 false true false false) := by
  refine returnsInHanded_of_change (C := Try.checked) own started (by kernel_rfl) Try.func3
    (ChangeSpec.witness6 (enc := enc) (C := Try.checked) false ⟨#[], #[.int .i64 0, .slice none 0 0], []⟩ 8 (by kernel_rfl) (by kernel_rfl) (by kernel_rfl) (by kernel_rfl)) ?_
  intro W base args ds gs before hval hW _ _
  exact contract H enc W base args ds gs before hval hW

theorem proved : Rows.StpTreeSaid :=
  OpenClaim.holds_of_wide 3 Try.f3 rfl rfl rfl rfl rfl rfl rfl ⟨rfl, rfl, rfl, rfl, rfl⟩ rfl rfl rfl rfl rfl (by kernel_rfl) Try.func3 (by kernel_rfl)
    (of_decide_eq_true (by kernel_rfl)) (by unfold Func.isWrapper; first | (rw [if_pos (by decide +kernel)]; kernel_rfl) | (rw [if_neg (by decide +kernel)]; exact ⟨rfl, rfl⟩))
    (fun os started H enc _ => lifted os started H enc)
end Go.Proofs.Ythjhlemdmahlnaa.StpTreeL
