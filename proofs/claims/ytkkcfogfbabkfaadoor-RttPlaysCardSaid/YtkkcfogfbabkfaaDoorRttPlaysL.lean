/- RttPlays: for any sequence of measurements and timeouts, estimates and timeouts are as specified: for every input, the row's handle laid as the card says. -/
import Derived.Test.YtkkcfogfbabkfaaDoorCards
import Derived.Test.YtkkcfogfbabkfaaDoorTie
import Derived.Deep.DeepHandedRow
import Derived.Lib.LaidTab
import Derived.LaidHandle
import Derived.SevenTiedAt
import Derived.Test.YtkkcfogfbabkfaaDoorRtt1
import Derived.Test.YtkkcfogfbabkfaaDoorRttIn
import Derived.Test.YtkkcfogfbabkfaaDoorRttRef
import Derived.Test.YtkkcfogfbabkfaaDoorRows0
import Derived.Test.YtkkcfogfbabkfaaDoorAs
import Derived.Deep.RegionLaw
namespace Go.Proofs.YtkkcfogfbabkfaaDoor.RttPlaysL
open Go.ChangeShapes Go.WideShapes Go.ChangeAt Go.RowKit Go.Proofs.YtkkcfogfbabkfaaDoor.Kit Go.Proofs.YtkkcfogfbabkfaaDoor.App Go.Proofs.YtkkcfogfbabkfaaDoor.RttMath Go.Proofs.YtkkcfogfbabkfaaDoor.Rtt Go.Proofs.YtkkcfogfbabkfaaDoor.As
set_option linter.unusedVariables false
set_option maxRecDepth 20000

theorem err_same (c : Int) (w : World) (hg : Handle w) : Calls Tryd.prog 6 #[er c, .int .i64 c] w fun e w' => e = .returned (.bool true) ∧ Below w.heap.size w w' :=
  (error_any c c w hg).mono fun e w' ⟨h1, h2⟩ => ⟨by rw [h1]; simp, h2⟩
abbrev Law (n : Int) (p : Option Addr) (m cap : Nat) (w : World) : Prop := Calls Tryd.prog 3 #[.int .i64 n, .slice p m cap] w fun e w' => e = .returned (.bool true) ∧ Below w.heap.size w w'
theorem law_bad (n : Int) (p : Option Addr) (m cap : Nat) (w : World) (hg : Handle w) (hn : ¬ (1 ≤ n ∧ n ≤ 100000)) : Law n p m cap w := by
  have NB := Lib.hid (new_bad n w hn)
  have IN := Lib.hid (in_any n 1 100000 w false (by symm; rw [Bool.and_eq_false_iff, decide_eq_false_iff_not, decide_eq_false_iff_not]; omega))
  have ER := Lib.hid (err_same 1 w hg)
  rw [er_1] at NB ER
  clear hg
  unfold Law
  go_enter Tryd.func3, Tryd.ntmps3
  go_wp2_with fail
  refine NB.out.mono ?_; rintro e w1 ⟨rfl, rfl⟩
  go_wp2_with fail
  refine IN.out.mono ?_; rintro e w2 ⟨rfl, rfl⟩
  go_wp2_with fail
  refine ER.out.mono ?_; rintro e w3 ⟨rfl, hb3⟩
  go_wp2_with fail
  go_ret
  exact ⟨rfl, hb3⟩
set_option maxHeartbeats 4000000 in
theorem law_good (n0 : Int) (p0 : Option Addr) (n cap : Nat) (ls : List (List Int)) (w : World) (hH : Handle w) (hn0 : 1 ≤ n0 ∧ n0 ≤ 100000) (hn : n = ls.length) (hR : RowsI w p0 cap ls) : Law n0 p0 n cap w := by
  have NG := Lib.hid (new_good n0 w hn0.1 hn0.2)
  have IN0 := Lib.hid (fun W => in_any n0 1 100000 W true (by simp; omega))
  have HH := Lib.hid (fun W (hb : Below w.heap.size w W) => hH.below hb)
  have HR := Lib.hid hR
  have hcap := hR.len_le
  rw [← hn] at hcap
  have HN := Lib.hid hn
  clear hn hR hH
  unfold Law
  go_enter Tryd.func3, Tryd.ntmps3
  go_wp2_with fail
  refine NG.out.mono ?_; rintro e w1 ⟨rfl, hT1, hb1⟩
  have HT1 := Lib.hid hT1
  have hgl := hT1.lt
  clear NG hT1
  obtain ⟨g, hg⟩ : ∃ g, w.heap.size = g := ⟨_, rfl⟩
  have HG := Lib.hid (Nat.le_of_eq hg)
  rw [hg] at HT1 hgl
  rw [hg] at ⊢
  clear hg
  go_wp2_with fail
  refine (IN0.out _).mono ?_; rintro e w1 ⟨rfl, rfl⟩
  go_wp2_with fail
  obtain ⟨b, hb⟩ : ∃ b, w1.heap.size = b := ⟨_, rfl⟩
  have HX1 := Lib.hid (Blk.new w1 31 [.int .i64 (-1), .int .i64 0, .int .i64 n0])
  rw [hb] at HX1 hgl ⊢
  have HT2 := Lib.hid (HT1.out.alloc (.cells #[.int .i64 (-1), .int .i64 0, .int .i64 n0] 31))
  have hB2 := balloc hb1 (.cells #[.int .i64 (-1), .int .i64 0, .int .i64 n0] 31)
  have HNE := Lib.hid (Nat.ne_of_lt hgl)
  have HWB := Lib.hid (Nat.le_trans hb1.size (Nat.le_of_eq hb))
  clear hb HT1 hb1 IN0
  generalize w1.alloc (.cells #[.int .i64 (-1), .int .i64 0, .int .i64 n0] 31) = w2 at HX1 HT2 hB2 ⊢
  go_loopw [8] (fun iv wr => ∃ k : Nat, iv = .int .i64 (k : Int) ∧ k ≤ n ∧ ∃ s p W, Tm wr g s p W ∧ Blk 31 wr b [.int .i64 s, .int .i64 p, .int .i64 W] ∧ Hid (Ok s p W) ∧ Below w.heap.size w wr) (fun i _ => n - (intOf i).toNat)
  case atStart => exact ⟨0, rfl, Nat.zero_le _, -1, 0, n0, HT2.out, HX1.out, Lib.hid (ok_new hn0.1 hn0.2), hB2⟩
  case round =>
    obtain ⟨k, rfl, hk, s, p, W, hT, hX, HO, hB⟩ := hrel
    have HT := Lib.hid hT
    have HX := Lib.hid hX
    have hWb := HO.out.2
    clear hT hX HT2 HX1 hB2
    by_cases hkn : k < n
    · have t1 : decide ((k : Int) < (n : Int)) = true := decide_eq_true (by omega)
      by_cases hk60 : k < 60
      · have t2 : decide ((k : Int) < 60) = true := decide_eq_true (by omega)
        obtain ⟨b0, off0, rfl, hb0, hrow⟩ := HR.out.2.2 (by have := HN.out; omega)
        obtain ⟨qr, cr, hq, hI⟩ := hrow k (by have := HN.out; omega)
        have hq' : wr.cell? ⟨b0, off0 + k, none⟩ = some (.slice qr (ls[k]?.getD []).length cr) := (hB.cell (p := ⟨b0, off0 + k, none⟩) hb0).trans hq
        clear hq hrow hb0
        generalize ls[k]?.getD [] = row at hq' hI
        by_cases h0 : row.length = 0
        · obtain ⟨W1, hW1⟩ : ∃ W1, RttMath.cap (2 * W) = W1 := ⟨_, rfl⟩
          have LA := Lib.hid (late_any g s p W W1 wr HT.out (by omega) hWb.2 hW1)
          have hq0 := hq'
          rw [h0] at hq0
          clear hq'
          go_wp2_with fail
          refine LA.out.mono ?_; rintro e w3 ⟨rfl, hT3, hg3⟩
          have hB3 := gbelow hB (Nat.le_refl _) hg3 HG.out
          have HX3 := Lib.hid (HX.out.more hg3 (fun e => HNE.out (Option.some.inj e).symm))
          have HT3 := Lib.hid hT3
          have x2 := HX3.out.cell 2 _ rfl
          have f2 := HX3.out.fz 2
          have HO := Lib.hid (show Ok s p W1 by rw [← hW1]; exact ok_late HO.out)
          clear LA hg3 hB HX hT3 HT hq0
          by_cases hc : 100000 < 2 * W
          · have t5 : decide (100000 < 2 * W) = true := decide_eq_true hc
            obtain rfl : W1 = 100000 := by rw [← hW1]; unfold RttMath.cap; rw [if_pos hc]
            clear hW1
            go_wp2_with fail
            have HX4 := Lib.hid ((HX3.out.set 2 (.int .i64 (2 * W))).set 2 (.int .i64 100000))
            have HT4 := Lib.hid ((HT3.out.other b 2 (.int .i64 (2 * W)) HNE.out).other b 2 (.int .i64 100000) HNE.out)
            have hB4 := below_set (below_set hB3 b 2 (.int .i64 (2 * W)) HWB.out) b 2 (.int .i64 100000) HWB.out
            clear x2 f2 HX3 HT3 hB3
            generalize (w3.setCell ⟨b, 2, none⟩ (.int .i64 (2 * W))).setCell ⟨b, 2, none⟩ (.int .i64 100000) = w4 at HX4 HT4 hB4 ⊢
            have HX := HX4
            have HT := HT4
            have hB := hB4
            have GU := Lib.hid (guess_any g s p 100000 w4 HT.out)
            go_wp2_with fail
            refine GU.out.mono ?_; rintro e w10 ⟨rfl, m10, rfl⟩
            have hB10 := bdrewN hB m10
            have HT10 := Lib.hid (HT.out.drewN m10)
            have HX10 := Lib.hid (HX.out.drewN m10)
            have x0 := HX10.out.cell 0 _ rfl
            have x1 := HX10.out.cell 1 _ rfl
            have x2 := HX10.out.cell 2 _ rfl
            have WA := Lib.hid (fun j => wait_any g s p 100000 ((w4.drewN m10).drewN j) (HT10.out.drewN j))
            clear GU hB HT HX
            generalize w4.drewN m10 = wz at x0 x1 x2 hB10 HT10 HX10 WA ⊢
            go_wp2_with fail
            go_quiet ((go_at_call 11; refine Calls.quiet_of_same (WA.out _)))
            go_wp2_with fail
            go_roundw
            case rel => exact ⟨k + 1, by first | rfl | go_num, by omega, s, p, 100000, HT10.out, HX10.out, HO, bdrewN hB10 _⟩
            case measure => simp [intOf]; omega
          · have t5 : decide (100000 < 2 * W) = false := decide_eq_false hc
            obtain rfl : W1 = 2 * W := by rw [← hW1]; unfold RttMath.cap; rw [if_neg hc]
            clear hW1
            go_wp2_with fail
            have HX4 := Lib.hid (HX3.out.set 2 (.int .i64 (2 * W)))
            have HT4 := Lib.hid (HT3.out.other b 2 (.int .i64 (2 * W)) HNE.out)
            have hB4 := below_set hB3 b 2 (.int .i64 (2 * W)) HWB.out
            clear x2 f2 HX3 HT3 hB3
            generalize w3.setCell ⟨b, 2, none⟩ (.int .i64 (2 * W)) = w4 at HX4 HT4 hB4 ⊢
            have HX := HX4
            have HT := HT4
            have hB := hB4
            have GU := Lib.hid (guess_any g s p (2 * W) w4 HT.out)
            go_wp2_with fail
            refine GU.out.mono ?_; rintro e w10 ⟨rfl, m10, rfl⟩
            have hB10 := bdrewN hB m10
            have HT10 := Lib.hid (HT.out.drewN m10)
            have HX10 := Lib.hid (HX.out.drewN m10)
            have x0 := HX10.out.cell 0 _ rfl
            have x1 := HX10.out.cell 1 _ rfl
            have x2 := HX10.out.cell 2 _ rfl
            have WA := Lib.hid (fun j => wait_any g s p (2 * W) ((w4.drewN m10).drewN j) (HT10.out.drewN j))
            clear GU hB HT HX
            generalize w4.drewN m10 = wz at x0 x1 x2 hB10 HT10 HX10 WA ⊢
            go_wp2_with fail
            go_quiet ((go_at_call 11; refine Calls.quiet_of_same (WA.out _)))
            go_wp2_with fail
            go_roundw
            case rel => exact ⟨k + 1, by first | rfl | go_num, by omega, s, p, 2 * W, HT10.out, HX10.out, HO, bdrewN hB10 _⟩
            case measure => simp [intOf]; omega
        · by_cases h1 : row.length = 1
          · obtain ⟨bb, off, rfl, hbb, hcs⟩ := hI.2.2.2 (by omega)
            have hc0 := hcs 0 (by omega)
            generalize row[0]?.getD 0 = x at hc0
            have KX := Lib.hid (fun W' (hb : Below w.heap.size w W') => show W'.cell? ⟨bb, off, none⟩ = some (.int .i64 x) from (hb.cell (p := ⟨bb, off, none⟩) hbb).trans hc0)
            have hq1 := hq'
            rw [h1] at hq1
            have hx := KX.out wr hB
            clear hcs hc0 hq' hI hbb h0 h1
            by_cases hxg : 0 ≤ x ∧ x ≤ 100000
            · obtain ⟨s', hs⟩ : ∃ s', smooth s x = s' := ⟨_, rfl⟩
              obtain ⟨p', hp⟩ : ∃ p', spread s p x = p' := ⟨_, rfl⟩
              obtain ⟨W', hW⟩ : ∃ W', RttMath.wait s' p' = W' := ⟨_, rfl⟩
              have IN := Lib.hid (fun W => in_any x 0 100000 W true (in_yes hxg.1 hxg.2))
              have RT := Lib.hid (fun W0 => rtake_any s p W x s' p' W' W0 HO.out hxg.1 hxg.2 hs hp hW)
              have TG := Lib.hid (fun W0 hT => take_good g s p W x s' p' W' W0 hT HO.out hxg.1 hxg.2 hs hp hW)
              have HO := Lib.hid (show Ok s' p' W' by rw [← hs, ← hp, ← hW, ← hs, ← hp]; exact ok_take HO.out hxg.1 hxg.2)
              have x0 := HX.out.cell 0 _ rfl
              have x1 := HX.out.cell 1 _ rfl
              have x2 := HX.out.cell 2 _ rfl
              clear hs hp hW
              go_wp2_with fail
              refine (IN.out _).mono ?_; rintro e w3 ⟨rfl, rfl⟩
              go_wp2_with fail
              go_region_law (first
                | (go_simp; go_at_call 8; refine (RT.out _).mono ?_; rintro e w8 ⟨rfl, hb8⟩
                   have HX8 := Lib.hid (HX.out.drew.below hb8)
                   have HT8 := Lib.hid (HT.out.drew.below hb8)
                   have hB8 := bcall hB.drew hb8
                   have x0 := HX8.out.cell 0 _ rfl
                   have x1 := HX8.out.cell 1 _ rfl
                   have x2 := HX8.out.cell 2 _ rfl
                   have f0 := HX8.out.fz 0
                   have f1 := HX8.out.fz 1
                   have f2 := HX8.out.fz 2))
              all_goals
                have HX9 : Hid (Blk 31 (((w8.setCell ⟨b, 0, none⟩ (.int .i64 s')).setCell ⟨b, 1, none⟩ (.int .i64 p')).setCell ⟨b, 2, none⟩ (.int .i64 W')) b [.int .i64 s', .int .i64 p', .int .i64 W']) := Lib.hid (((HX8.out.set 0 (.int .i64 s')).set 1 (.int .i64 p')).set 2 (.int .i64 W'))
                have HT9 := Lib.hid (((HT8.out.other b 0 (.int .i64 s') HNE.out).other b 1 (.int .i64 p') HNE.out).other b 2 (.int .i64 W') HNE.out)
                have hB9 := below_set (below_set (below_set hB8 b 0 (.int .i64 s') HWB.out) b 1 (.int .i64 p') HWB.out) b 2 (.int .i64 W') HWB.out
                clear x0 x1 x2 f0 f1 f2 HX8 HT8 hB8 hb8 hB HT HX hx hq1
                generalize ((w8.setCell ⟨b, 0, none⟩ (.int .i64 s')).setCell ⟨b, 1, none⟩ (.int .i64 p')).setCell ⟨b, 2, none⟩ (.int .i64 W') = w9 at HX9 HT9 hB9 ⊢
                have hx := KX.out w9 hB9
                have TK := Lib.hid (TG.out w9 HT9.out)
                go_wp2_with fail
                refine TK.out.mono ?_; rintro e w10 ⟨rfl, hT10, hg10⟩
                have hB10 := gbelow hB9 (Nat.le_refl _) hg10 HG.out
                have HX10 := Lib.hid (HX9.out.more hg10 (fun e => HNE.out (Option.some.inj e).symm))
                have HT10 := Lib.hid hT10
                have ER := Lib.hid (err_same 0 w10 (HH.out _ hB10))
                rw [er_0] at ER
                clear TK hg10 hB9 HX9 HT9 hT10 hx
                go_wp2_with fail
                refine ER.out.mono ?_; rintro e w11 ⟨rfl, hb11⟩
                have hB := bcall hB10 hb11
                have HX := Lib.hid (HX10.out.below hb11)
                have HT := Lib.hid (HT10.out.below hb11)
                clear ER hb11 hB10 HX10 HT10
                have GU := Lib.hid (guess_any g s' p' W' w11 HT.out)
                go_wp2_with fail
                refine GU.out.mono ?_; rintro e w10 ⟨rfl, m10, rfl⟩
                have hB10 := bdrewN hB m10
                have HT10 := Lib.hid (HT.out.drewN m10)
                have HX10 := Lib.hid (HX.out.drewN m10)
                have x0 := HX10.out.cell 0 _ rfl
                have x1 := HX10.out.cell 1 _ rfl
                have x2 := HX10.out.cell 2 _ rfl
                have WA := Lib.hid (fun j => wait_any g s' p' W' ((w11.drewN m10).drewN j) (HT10.out.drewN j))
                clear GU hB HT HX
                generalize w11.drewN m10 = wz at x0 x1 x2 hB10 HT10 HX10 WA ⊢
                go_wp2_with fail
                go_quiet ((go_at_call 11; refine Calls.quiet_of_same (WA.out _)))
                go_wp2_with fail
                go_roundw
                case rel => exact ⟨k + 1, by first | rfl | go_num, by omega, s', p', W', HT10.out, HX10.out, HO, bdrewN hB10 _⟩
                case measure => simp [intOf]; omega
            · have IN := Lib.hid (fun W => in_any x 0 100000 W false (in_no hxg))
              have TB := Lib.hid (fun W => take_bad g x W hxg)
              rw [er_1] at TB
              go_wp2_with fail
              refine (IN.out _).mono ?_; rintro e w3 ⟨rfl, rfl⟩
              go_wp2_with fail
              refine (TB.out _).mono ?_; rintro e w4 ⟨rfl, rfl⟩
              have ER := Lib.hid (err_same 1 w4 (HH.out _ hB))
              rw [er_1] at ER
              go_wp2_with fail
              refine ER.out.mono ?_; rintro e w11 ⟨rfl, hb11⟩
              have hB' := bcall hB hb11
              have HX' := Lib.hid (HX.out.below hb11)
              have HT' := Lib.hid (HT.out.below hb11)
              clear ER hb11 hB HX HT TB IN hx hq1
              have HX := HX'
              have HT := HT'
              have hB := hB'
              clear HX' HT' hB'
              have GU := Lib.hid (guess_any g s p W w11 HT.out)
              go_wp2_with fail
              refine GU.out.mono ?_; rintro e w10 ⟨rfl, m10, rfl⟩
              have hB10 := bdrewN hB m10
              have HT10 := Lib.hid (HT.out.drewN m10)
              have HX10 := Lib.hid (HX.out.drewN m10)
              have x0 := HX10.out.cell 0 _ rfl
              have x1 := HX10.out.cell 1 _ rfl
              have x2 := HX10.out.cell 2 _ rfl
              have WA := Lib.hid (fun j => wait_any g s p W ((w11.drewN m10).drewN j) (HT10.out.drewN j))
              clear GU hB HT HX
              generalize w11.drewN m10 = wz at x0 x1 x2 hB10 HT10 HX10 WA ⊢
              go_wp2_with fail
              go_quiet ((go_at_call 11; refine Calls.quiet_of_same (WA.out _)))
              go_wp2_with fail
              go_roundw
              case rel => exact ⟨k + 1, by first | rfl | go_num, by omega, s, p, W, HT10.out, HX10.out, HO, bdrewN hB10 _⟩
              case measure => simp [intOf]; omega
          · have hrl : row.length ≤ 9223372036854775807 := by have h4 := hI.1; have h5 := hI.2.1; unfold maxLen at h5; omega
            obtain ⟨m, hm⟩ : ∃ m, row.length = m := ⟨_, rfl⟩
            rw [hm] at hq' h0 h1 hrl
            have t3 : ((m : Int) == 0) = false := by rw [beq_eq_false_iff_ne]; omega
            have t4 : ((m : Int) == 1) = false := by rw [beq_eq_false_iff_ne]; omega
            clear hm hI
            have GU := Lib.hid (guess_any g s p W wr HT.out)
            go_wp2_with fail
            refine GU.out.mono ?_; rintro e w10 ⟨rfl, m10, rfl⟩
            have hB10 := bdrewN hB m10
            have HT10 := Lib.hid (HT.out.drewN m10)
            have HX10 := Lib.hid (HX.out.drewN m10)
            have x0 := HX10.out.cell 0 _ rfl
            have x1 := HX10.out.cell 1 _ rfl
            have x2 := HX10.out.cell 2 _ rfl
            have WA := Lib.hid (fun j => wait_any g s p W ((wr.drewN m10).drewN j) (HT10.out.drewN j))
            clear GU hB HT HX
            generalize wr.drewN m10 = wz at x0 x1 x2 hB10 HT10 HX10 WA ⊢
            go_wp2_with fail
            go_quiet ((go_at_call 11; refine Calls.quiet_of_same (WA.out _)))
            go_wp2_with fail
            go_roundw
            case rel => exact ⟨k + 1, by first | rfl | go_num, by omega, s, p, W, HT10.out, HX10.out, HO, bdrewN hB10 _⟩
            case measure => simp [intOf]; omega
      · have t2 : decide ((k : Int) < 60) = false := decide_eq_false (by omega)
        go_wp2_with fail
        go_ret
        exact ⟨rfl, hB⟩
    · have t1 : decide ((k : Int) < (n : Int)) = false := decide_eq_false (by omega)
      go_wp2_with fail
      go_ret
      exact ⟨rfl, hB⟩

theorem reads : Tryd.f3.params.toList.all (fun t => Tryd.prog.readableRec t && decide (t < Tryd.prog.types.size)) = true := by kernel_rfl
theorem et : Tryd.prog.globalNamed "errors.errorType" = some 0 := by kernel_rfl
theorem rt : (Tryd.prog.cutTypes.find? (·.1 == "internal/reflectlite.rtype")).map (·.2) = some 60 := by kernel_rfl
theorem oneRow : ((List.range Tryd.prog.types.size).filter fun t => Tryd.prog.rowNamed t [101, 114, 114, 111, 114]) = [25] := by kernel_rfl

theorem handle_of_laid {W : World} (h : laidMetH Tryd.prog Rows.rttPlaysRow.laid W) : Handle W := by
  have h' : laidMet Tryd.prog [] W ∧ handlesMet Tryd.prog Rows.rttPlaysRow.laid W := h
  obtain ⟨name, u, ty, e1, e2, e3, e4, e5⟩ := h'.2 _ (List.mem_singleton.2 rfl)
  have en : name = [101, 114, 114, 111, 114] := (Option.some.inj e1).symm
  subst en
  obtain rfl := Option.some.inj (rt.symm.trans e2)
  have hm : ty ∈ (List.range Tryd.prog.types.size).filter fun t => Tryd.prog.rowNamed t [101, 114, 114, 111, 114] := List.mem_filter.2 ⟨List.mem_range.2 e3, e4⟩
  rw [oneRow] at hm
  obtain rfl := List.mem_singleton.1 hm
  have hh : typeHandle Tryd.prog 25 = .pointer (some ⟨1, 25, none⟩) := by kernel_rfl
  rw [hh] at e5
  have e6 := World.var?_cell et e5 0
  unfold Handle
  simpa using e6

noncomputable def laidWorld (os : Os) : World :=
  { World.holding Tryd.prog os ⟨#[], #[], []⟩ with heap := (World.holding Tryd.prog os ⟨#[], #[], []⟩).heap.modify 0 fun
      | .cells _ t frozen => .cells #[.iface 60 (.agg #[.pointer (some ⟨1, 25, none⟩)])] t frozen
      | o => o }
theorem laid_met (os : Os) : laidMetH Tryd.prog Rows.rttPlaysRow.laid ((laidWorld os).forCall (fun _ _ => 0) ⟨#[], #[.int .i64 0, .slice none 0 0], []⟩).memory :=
  laidMetH_of_parts (laidMet_nil _ _) (by kernel_rfl)
theorem reads_wit (os : Os) {H : Type} (enc : TypeId × Value → H) : ∃ places, DataW.whole enc Tryd.prog ((laidWorld os).forCall (fun _ _ => 0) ⟨#[], #[.int .i64 0, .slice none 0 0], []⟩).memory Tryd.f3.params.toList Rows.rttPlaysSpec.vars false (#[.int .i64 0, .slice none 0 0] : Array Value).toList 8 = some ([.lit (.int .i64 0), .nil], [], places) :=
  ⟨[], by kernel_rfl⟩

theorem contract (H : Type) (enc : TypeId × Value → H) (W : World) (base : Nat) (args : Array Value) (ds gs : List (DataW H)) (before : List MemPlace)
    (hval : ∀ (j : Nat) t v, Tryd.f3.params[j]? = some t → args[j]? = some v → Value.okWide Tryd.prog W .any base t v)
    (hW : DataW.Whole enc Tryd.prog Tryd.f3.params.toList Rows.rttPlaysSpec.vars false W args.toList ds gs before) (hL : laidMetH Tryd.prog Rows.rttPlaysRow.laid W) :
    Calls Tryd.prog 3 args W fun e W' => ∃ v, e = .returned v ∧ Rows.rttPlaysSpec.post enc Tryd.prog Tryd.f3 false true false false W args v W' := by
  have hW' := hW
  have hg := handle_of_laid hL
  obtain ⟨p, q, hA0, hV, rfl, hfz, hnd⟩ := hW
  have hA : DataW.TrodAll enc Tryd.prog W 0 (fun _ => true) true Tryd.f3.params.toList args.toList ds p := hA0
  have hlt := hA.lt
  rw [Tryd.params3] at hA hval
  obtain ⟨v0, vs0, d0, ds0, p0, q0, hargs, rfl, rfl, h0, r0⟩ := trodAll_cons hA
  obtain ⟨v1, vs1, d1, ds1, p1, q1, hvs1, rfl, rfl, h1, r1⟩ := trodAll_cons r0
  obtain ⟨hvsn, rfl, rfl⟩ := trodAll_nil r1
  simp only [hvsn, hvs1] at hargs
  obtain rfl : args = #[v0, v1] := by cases args; simp_all
  obtain ⟨a0, rfl, rfl, rfl, w0⟩ := open_int Tryd.underlying3 (hval 0 3 v0 rfl rfl) h0
  have b0 := bounds_int w0
  obtain ⟨p1a, cap1, l1, rfl, i1, e1⟩ := open_rows Tryd.underlying22 Tryd.underlying32 Tryd.underlying3 (by kernel_rfl) (by kernel_rfl) (hval 1 22 v1 rfl rfl) h1 (fun x hx => hlt x (by simp [hx]))
  obtain ⟨rfl, rfl⟩ := trodVars_none hV
  clear hA0
  exact law_post 4 laid reads rfl Tryd.underlying4 rfl hW' ⟨rfl, rfl, rfl⟩ (by
    by_cases h : 1 ≤ a0 ∧ a0 ≤ 100000
    · exact law_good a0 _ _ _ l1 W hg h rfl i1
    · exact law_bad a0 _ _ _ W hg h)

set_option maxRecDepth 100000 in
theorem lifted (os : Os) (started : os.Started) (H : Type) (enc : TypeId × Value → H) (F : Stop.Interp) :
    ReturnsInHanded {} Tryd.checked os 3 .any ((OpenSpec.ofChange Rows.rttPlaysSpec).preRow enc Tryd.prog Tryd.f3 Rows.rttPlaysRow.domain false Rows.rttPlaysRow.laid) (((OpenSpec.ofChange Rows.rttPlaysSpec).at F).post enc Tryd.prog Tryd.f3 false true false false) := by
  obtain ⟨places, hx⟩ := reads_wit os enc
  refine returnsInHanded_of_row (C := Tryd.checked) (s := (OpenSpec.ofChange Rows.rttPlaysSpec)) own started (by kernel_rfl) Tryd.func3
    (witness_row_at (enc := enc) (C := Tryd.checked) false (laidWorld os) #[.int .i64 0, .slice none 0 0] rfl (by kernel_rfl) (by kernel_rfl) (by kernel_rfl)
      (OpenSpec.preRow_of_cond 8 hx (by kernel_rfl) (fun k hk => by cases hk) (by kernel_rfl) (laid_met os))) ?_
  intro W base args ds gs before hval hW _ hcond _ hL _ _
  exact contract H enc W base args ds gs before hval hW hL

theorem said : Rows.RttPlaysSaid :=
  OpenClaim.holds_of_cond 3 Tryd.f3 rfl rfl rfl rfl rfl rfl rfl ⟨rfl, rfl, rfl, rfl, rfl⟩ rfl rfl rfl rfl rfl (by kernel_rfl) Tryd.func3 (by kernel_rfl)
    (of_decide_eq_true (by kernel_rfl)) (by unfold Func.isWrapper; first | (rw [if_pos (by decide +kernel)]; kernel_rfl) | (rw [if_neg (by decide +kernel)]; exact ⟨rfl, rfl⟩))
    (fun os started H enc _ F => by rw [OpenClaim.pre_eq_preRow]; exact lifted os started H enc F)

theorem plain (f : FuncId) (fn : Func) (hf : Tryd.pinned.checked.prog.funcNamed Rows.rttPlaysRow.func = some f) (hfn : Tryd.pinned.checked.prog.funcs[f]? = some fn) :
    true = Tryd.pinned.checked.prog.looks [] ∧ ∀ (j : Nat) t, fn.params[j]? = some t → Tryd.pinned.checked.prog.wantsStandIn t = false := by
  obtain rfl : f = 3 := Option.some.inj ((show Tryd.prog.funcNamed Rows.rttPlaysRow.func = some 3 by kernel_rfl).symm.trans hf) |>.symm
  obtain rfl : fn = Tryd.f3 := (Option.some.inj (Tryd.func3.symm.trans hfn)).symm
  refine ⟨by kernel_rfl, fun j t ht => ?_⟩
  have hall : Tryd.f3.params.toList.all (fun t => !Tryd.prog.wantsStandIn t) = true := by kernel_rfl
  have hm : t ∈ Tryd.f3.params.toList := by simpa using Array.mem_of_getElem? ht
  have := List.all_eq_true.1 hall t hm
  show Tryd.prog.wantsStandIn t = false
  simpa using this

theorem proved : Rows.RttPlaysCardSaid :=
  Claim7.holds_tied_plain_at .later [] _ _ _ _ said (fun _ h => by cases h) (by kernel_rfl) (fun _ h => by cases h) rttPlays_row_tie rfl ⟨rfl, rfl⟩ (by kernel_rfl) rfl plain (by kernel_rfl)
end Go.Proofs.YtkkcfogfbabkfaaDoor.RttPlaysL
