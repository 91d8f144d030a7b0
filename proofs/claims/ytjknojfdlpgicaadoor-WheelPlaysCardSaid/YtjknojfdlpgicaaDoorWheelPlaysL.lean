/- WheelPlays: for any sequence of calls, timers start, stop and expire as specified: for every input, the row's handle laid as the card says. -/
import Derived.Test.YtjknojfdlpgicaaDoorCards
import Derived.Test.YtjknojfdlpgicaaDoorTie
import Derived.Deep.DeepHandedRow
import Derived.Lib.LaidTab
import Derived.LaidHandle
import Derived.SevenTiedAt
import Derived.Test.YtjknojfdlpgicaaDoorWheelTab
import Derived.Test.YtjknojfdlpgicaaDoorRows0
import Derived.Test.YtjknojfdlpgicaaDoorAs
import Derived.Deep.RegionLaw
import Derived.Deep.RegionHeld3
namespace Go.Proofs.YtjknojfdlpgicaaDoor.WheelPlaysL
open Go.ChangeShapes Go.WideShapes Go.ChangeAt Go.RowKit Go.Proofs.YtjknojfdlpgicaaDoor.Kit Go.Proofs.YtjknojfdlpgicaaDoor.App Go.Proofs.YtjknojfdlpgicaaDoor.Queue Go.Proofs.YtjknojfdlpgicaaDoor.MapZ Go.Proofs.YtjknojfdlpgicaaDoor.WheelMath Go.Proofs.YtjknojfdlpgicaaDoor.Wheel Go.Proofs.YtjknojfdlpgicaaDoor.As
set_option linter.unusedVariables false
set_option maxRecDepth 20000

theorem err_same (c : Int) (w : World) (hg : Handle w) : Calls Tryd.prog 11 #[er c, .int .i64 c] w fun e w' => e = .returned (.bool true) ∧ Below w.heap.size w w' :=
  (error_any c c w hg).mono fun e w' ⟨h1, h2⟩ => ⟨by rw [h1]; simp, h2⟩
theorem made20 (w : World) : ∃ w', (Instr.makeSlice 29 (.int .i64 20) (.int .i64 20)).run Tryd.prog w = .ok (.slice (some ⟨w.heap.size, 0, none⟩) 20 20) w' ∧ RowQ w' w.heap.size 0 20 (tab none0) ∧ w.grownBy w' none := by
  have hi0 := info_int
  obtain ⟨i, hi, hz⟩ := Option.map_eq_some_iff.1 hi0
  simp only [Prod.mk.injEq] at hz
  obtain ⟨w', h1, h2, h3⟩ := run_makeSlice_full (P := Tryd.prog) (w := w) 0 29 3 i (.int .i64 0) 1 Tryd.underlying29 hi hz.1 hz.2.1 .i64 .i64 20 (by omega) (by rw [hz.2.2]; omega) (by unfold maxLen; omega) (Nat.zero_le _)
  refine ⟨w', h1, ?_, h3⟩
  have ho : OwnI w' 0 (.slice (some ⟨w.heap.size, 0, none⟩) 20 20) (tab none0) := by
    refine ⟨?_, fun x hx => ?_⟩
    · have e : (tab none0).map (Value.int .i64) = List.replicate 20 (.int .i64 0) := by kernel_rfl
      rw [e, tab_len]
      have e2 : (madeCells (Value.cells (.int .i64 0)) (20 * 1)).toList = List.replicate 20 (.int .i64 0) := toList_madeCells_one _ _
      rw [e2] at h2
      exact h2
    · unfold tab at hx
      obtain ⟨_, _, rfl⟩ := List.mem_map.1 hx
      exact w400 (Nat.zero_le _)
  obtain ⟨g, off, e, _, hr⟩ := row_of (OwnQ.of_own ho) (fun e => by have := tab_len none0; rw [e] at this; simp at this)
  injection e with e
  injection e with e1 e2
  subst e1; subst e2
  exact hr
theorem ups_one {left : Int → Nat} {k : Nat} (h : left (k : Int) = 1) : uptoL left (k + 1) = uptoL left k ++ [(k : Int)] := by rw [uptoL, if_pos h]
theorem ups_no {left : Int → Nat} {k : Nat} (h : left (k : Int) ≠ 1) : uptoL left (k + 1) = uptoL left k := by rw [uptoL, if_neg h, List.append_nil]
abbrev Law (p : Option Addr) (m cap : Nat) (w : World) : Prop := Calls Tryd.prog 4 #[.slice p m cap] w fun e w' => e = .returned (.bool true) ∧ Below w.heap.size w w'
set_option maxHeartbeats 4000000 in
theorem core (p0 : Option Addr) (n cap : Nat) (ls : List (List Int)) (w : World) (hH : Handle w) (hn : n = ls.length) (hR : RowsI w p0 cap ls) : Law p0 n cap w := by
  have NW := Lib.hid (new_any w)
  have HH := Lib.hid (fun W (hb : Below w.heap.size w W) => hH.below hb)
  have HR := Lib.hid hR
  have hcap := hR.len_le
  rw [← hn] at hcap
  have HN := Lib.hid hn
  clear hn hR hH
  unfold Law
  go_enter Tryd.func4, Tryd.ntmps4
  go_wp2_with fail
  refine NW.out.mono ?_; rintro e w1 ⟨b, rfl, hW1, hb1⟩
  obtain ⟨w2, hmk, hrow, hg2⟩ := made20 w1
  have HP2 : Hid (PS w w2 b w1.heap.size 0 none0 none0) := Lib.hid ⟨hW1.more hg2 (fun k hk => by cases hk) (fun k hk => by
    rcases hk with h | h
    · exact ⟨.inl h, Nat.lt_of_lt_of_le (Nat.lt_of_lt_of_le h hb1.size) hg2.size⟩
    · exact ⟨.inr (by omega), by rw [h]; exact hrow.lt⟩), hrow, hb1.size, hb1.grown (row := none) hg2 hb1.size (fun k hk => by cases hk)⟩
  clear NW hW1 hb1 hrow hg2
  generalize w1.heap.size = lb at hmk HP2
  go_wp2_with fail
  go_loopw [5] (fun iv wr => ∃ k : Nat, iv = .int .i64 (k : Int) ∧ k ≤ n ∧ k ≤ 200 ∧ ∃ left : Int → Nat, Hid (PS w wr b lb k left left)) (fun i _ => n - (intOf i).toNat)
  case atStart => exact ⟨0, rfl, Nat.zero_le _, by omega, none0, HP2⟩
  case round =>
    obtain ⟨k, rfl, hk, hk2, left, HP⟩ := hrel
    clear HP2
    have HG := Lib.hid (fun i (hi : left i ≠ 0) => HP.out.wh.rng i hi)
    by_cases hkn : k < n
    · have t1 : decide ((k : Int) < (n : Int)) = true := decide_eq_true (by omega)
      by_cases hk60 : k < 200
      · have t2 : decide ((k : Int) < 200) = true := decide_eq_true (by omega)
        obtain ⟨b0, off0, rfl, hb0, hrow⟩ := HR.out.2.2 (by have := HN.out; omega)
        obtain ⟨qr, cr, hq, hI⟩ := hrow k (by have := HN.out; omega)
        have hq' : wr.cell? ⟨b0, off0 + k, none⟩ = some (.slice qr (ls[k]?.getD []).length cr) := (HP.out.bel.cell (p := ⟨b0, off0 + k, none⟩) hb0).trans hq
        clear hq hrow hb0
        generalize ls[k]?.getD [] = row at hq' hI
        by_cases h0 : row.length = 0
        · have hq0 := hq'
          rw [h0] at hq0
          clear hq' hI
          go_wp2_with fail
          go_loopw [7, 8] (fun sv iv wr => ∃ (j : Nat) (vv : Value), vv = sv ∧ iv = .int .i64 (j : Int) ∧ j ≤ 20 ∧ Hid (PW w wr b lb k vv (uptoL left j) (mix left j) left)) (fun _ i _ => 20 - (intOf i).toNat)
          case atStart => exact ⟨0, _, rfl, rfl, Nat.zero_le _, Lib.hid ((HP.out.same (mix_zero left).symm).want)⟩
          case round =>
            clear HP hq0
            obtain ⟨j, vv, rfl, rfl, hj, HQ⟩ := hrel
            by_cases hj20 : j < 20
            · have t3 : decide ((j : Int) < 20) = true := decide_eq_true (by omega)
              have hj5 : (j : Int) < 20 := by omega
              have cj := HQ.out.cell hj20
              have fj := HQ.out.fz j
              rw [mix_at] at cj
              obtain ⟨x, hx⟩ : ∃ x, left (j : Int) = x := ⟨_, rfl⟩
              have hx4 : x ≤ 400 := by
                by_cases e : left (j : Int) = 0
                · omega
                · have := (HG.out _ e).2.2; omega
              rw [hx] at cj
              have HX := Lib.hid hx
              clear hx
              by_cases e1 : x = 1
              · subst e1
                have cj : wr.cell? ⟨lb, j, none⟩ = some (.int .i64 1) := cj
                have HA := Lib.hid (HQ.out.alloc (.cells #[.int .i64 (j : Int)] 3))
                have HI := Lib.hid (Ints.one wr (j : Int) (wf_of (by omega)))
                have hl := len_upto left j
                go_wp2_with (at_builtin
                             refine wp_appQ rfl (.tmp 42) (.tmp 44) rfl (lb + 1) vv (uptoL left j) (some ⟨wr.heap.size, 0, none⟩) 1 1 [(j : Int)] rfl HA.out.own rfl rfl HI.out (by simp; omega) HA.out.sz ?_
                             intro v1 w1 ho1 hg1 hat1
                             have HP1 := Lib.hid (HA.out.app ho1 hg1 hat1)
                             have cj1 : w1.cell? ⟨lb, j, none⟩ = some (.int .i64 1) := by have h := HP1.out.cell hj20; rw [mix_at, HX.out] at h; exact h
                             have fj1 := HP1.out.fz j
                             clear ho1 hg1 hat1 cj fj)
                have HP2 : Hid (PW w (w1.setCell ⟨lb, j, none⟩ (.int .i64 0)) b lb k v1 (uptoL left (j + 1)) (mix left (j + 1)) left) := Lib.hid (by
                  have h := HP1.out.set hj20 0 (by omega)
                  rw [show (0 : Nat) = left (j : Int) - 1 by rw [HX.out], mix_next, ← ups_one HX.out, HX.out] at h
                  exact h)
                go_roundw
                case rel => exact ⟨j + 1, _, rfl, by first | rfl | go_num, by omega, HP2⟩
                case measure => simp [intOf]; omega
              · by_cases e0 : x = 0
                · subst e0
                  have cj : wr.cell? ⟨lb, j, none⟩ = some (.int .i64 0) := cj
                  have HP2 : Hid (PW w wr b lb k vv (uptoL left (j + 1)) (mix left (j + 1)) left) := Lib.hid (by
                    rw [ups_no (by rw [HX.out]; omega), mix_same left j HX.out]
                    exact HQ.out)
                  go_wp2_with fail
                  go_roundw
                  case rel => exact ⟨j + 1, _, rfl, by first | rfl | go_num, by omega, HP2⟩
                  case measure => simp [intOf]; omega
                · have t4 : ((x : Int) == 1) = false := by rw [beq_eq_false_iff_ne]; omega
                  have t5 : decide (0 < (x : Int)) = true := decide_eq_true (by omega)
                  have HP2 : Hid (PW w (wr.setCell ⟨lb, j, none⟩ (.int .i64 ((x : Int) - 1))) b lb k vv (uptoL left (j + 1)) (mix left (j + 1)) left) := Lib.hid (by
                    have h := HQ.out.set hj20 (x - 1) (by omega)
                    rw [← HX.out, mix_next, HX.out, ← ups_no (left := left) (k := j) (by rw [HX.out]; omega), show ((x - 1 : Nat) : Int) = (x : Int) - 1 by omega] at h
                    exact h)
                  go_wp2_with fail
                  go_roundw
                  case rel => exact ⟨j + 1, _, rfl, by first | rfl | go_num, by omega, HP2⟩
                  case measure => simp [intOf]; omega
            · obtain rfl : j = 20 := by omega
              have t3 : decide (((20 : Nat) : Int) < 20) = false := by decide
              have HE : Hid (PW w wr b lb k vv (dueL left) (dec left) left) := Lib.hid (HQ.out.same (mix_all left))
              clear HQ
              obtain ⟨pw, cw, ev, _⟩ := HE.out.own.form
              obtain ⟨dn, hdn⟩ : ∃ dn, (dueL left).length = dn := ⟨_, rfl⟩
              rw [hdn] at ev
              subst ev
              have C := Lib.hid (tick_any (fun i => (i < w.heap.size ∨ i = lb) ∨ (Value.slice pw dn cw).ownBlock = some i) b k left wr HE.out.wh)
              rw [hdn] at C
              have HDN := Lib.hid hdn.symm
              clear hdn
              go_wp2_with fail
              refine C.out.mono ?_; rintro e w3 ⟨p3, cap3, rfl, hi3, hW3, hK3⟩
              have HP3 := Lib.hid (HE.out.wheel hW3 hK3)
              have hIw := ints_keep HE.out.own hK3 (fun i hi => .inr hi)
              have IA := Lib.hid (ints_any p3 pw cap3 cw dn dn (dueL left) (dueL left) w3 HDN.out HDN.out hi3 hIw.1 true (by simp))
              clear C hi3 hW3 hK3 hIw
              go_wp2_with fail
              refine IA.out.mono ?_; rintro e w4 ⟨rfl, hb4⟩
              have HP4 := Lib.hid ((HP3.out.below hb4).mono (Nat.le_succ k))
              clear IA hb4 HP3
              go_wp2_with fail
              go_roundw
              case rel => exact ⟨k + 1, by first | rfl | go_num, by omega, by omega, _, HP4⟩
              case measure => simp [intOf]; omega
        · by_cases h1 : row.length = 1
          · have hq1 := hq'
            rw [h1] at hq1
            clear hq'
            obtain ⟨x0, rfl⟩ : ∃ x0, row = [x0] := by
              match row, h1 with
              | [x0], _ => exact ⟨x0, rfl⟩
            obtain ⟨bb, off, rfl, hbb, hcs⟩ := hI.2.2.2 (by simp)
            have hx0 : (Lit.int .i64 x0).wf = true := hI.2.2.1 0
            have K := Lib.hid (fun (W' : World) (hb : Below w.heap.size w W') => show W'.cell? ⟨bb, off, none⟩ = some (.int .i64 x0) from (hb.cell (p := ⟨bb, off, none⟩) hbb).trans (hcs 0 (by simp)))
            clear hcs hI hbb
            have kx := K.out wr HP.out.bel
            by_cases hr : 0 ≤ x0 ∧ x0 ≤ 19
            · obtain ⟨j, rfl⟩ : ∃ j : Nat, (j : Int) = x0 := ⟨x0.toNat, by omega⟩
              have IN := Lib.hid (fun W => Go.Proofs.YtjknojfdlpgicaaDoor.Rtt.in_any (j : Int) 0 19 W true (by simp; omega))
              have hj20 : j < 20 := by omega
              have hj5 : (j : Int) < 20 := by omega
              have cj := HP.out.cell hj20
              have fj := HP.out.fz j
              by_cases hl : left (j : Int) = 0
              · rw [hl] at cj
                have cj : wr.cell? ⟨lb, j, none⟩ = some (.int .i64 0) := cj
                have HC := Lib.hid (show stopC left (j : Int) = 5 from if_pos hl)
                have HU := Lib.hid (upd_zero hl)
                clear hl
                go_wp2_with fail
                refine (IN.out _).mono ?_; rintro e w2 ⟨rfl, rfl⟩
                go_wp2_with fail
                have kx := K.out w2 HP.out.bel
                have SC := Lib.hid (stop_any (fun k => k < w.heap.size ∨ k = lb) b k left (j : Int) w2 HP.out.wh hx0)
                rw [HC.out, er_5] at SC
                refine SC.out.mono ?_; rintro e w3 ⟨rfl, hW3, hK3⟩
                have HP3 := Lib.hid (HP.out.wheel hW3 hK3)
                have ER := Lib.hid (err_same 5 w3 (HH.out _ HP3.out.bel))
                rw [er_5] at ER
                clear SC hW3 hK3
                go_wp2_with fail
                refine ER.out.mono ?_; rintro e w4 ⟨rfl, hb4⟩
                have HP4 : Hid (PS w w4 b lb (k + 1) (left) (left)) := Lib.hid (by
                  have h := (HP3.out.below hb4).mono (Nat.le_succ k)
                  rw [HU.out] at h
                  exact h)
                clear ER hb4 HP3
                go_wp2_with fail
                go_roundw
                case rel => exact ⟨k + 1, by first | rfl | go_num, by omega, by omega, _, HP4⟩
                case measure => simp [intOf]; omega
              · obtain ⟨x, hx⟩ : ∃ x, left (j : Int) = x := ⟨_, rfl⟩
                rw [hx] at cj
                have t5 : decide (0 < (x : Int)) = true := decide_eq_true (by omega)
                have t6 : 0 < x := by omega
                have HC := Lib.hid (show stopC left (j : Int) = 0 from if_neg hl)
                have HP2 : Hid (PS w (wr.setCell ⟨lb, j, none⟩ (.int .i64 0)) b lb k (updZ left (j : Int) 0) left) := Lib.hid (HP.out.set hj20 0 (by omega))
                have kx2 := K.out _ HP2.out.bel
                clear hl hx
                go_wp2_with fail
                refine (IN.out _).mono ?_; rintro e w2 ⟨rfl, rfl⟩
                go_wp2_with fail
                have kx := K.out (w2.setCell ⟨lb, j, none⟩ (.int .i64 0)) HP2.out.bel
                have SC := Lib.hid (stop_any (fun k => k < w.heap.size ∨ k = lb) b k left (j : Int) (w2.setCell ⟨lb, j, none⟩ (.int .i64 0)) HP2.out.wh hx0)
                rw [HC.out, er_0] at SC
                refine SC.out.mono ?_; rintro e w3 ⟨rfl, hW3, hK3⟩
                have HP3 := Lib.hid (HP2.out.wheel hW3 hK3)
                have ER := Lib.hid (err_same 0 w3 (HH.out _ HP3.out.bel))
                rw [er_0] at ER
                clear SC hW3 hK3
                go_wp2_with fail
                refine ER.out.mono ?_; rintro e w4 ⟨rfl, hb4⟩
                have HP4 : Hid (PS w w4 b lb (k + 1) (updZ left (j : Int) 0) (updZ left (j : Int) 0)) := Lib.hid (by
                  have h := (HP3.out.below hb4).mono (Nat.le_succ k)
                  exact h)
                clear ER hb4 HP3
                go_wp2_with fail
                go_roundw
                case rel => exact ⟨k + 1, by first | rfl | go_num, by omega, by omega, _, HP4⟩
                case measure => simp [intOf]; omega
            · have IN := Lib.hid (fun W => Go.Proofs.YtjknojfdlpgicaaDoor.Rtt.in_any x0 0 19 W false (by symm; rw [Bool.and_eq_false_iff, decide_eq_false_iff_not, decide_eq_false_iff_not]; omega))
              have hl : left x0 = 0 := Decidable.byContradiction fun h => hr (by have := HG.out x0 h; omega)
              have HC := Lib.hid (show stopC left x0 = 5 from if_pos hl)
              have HU := Lib.hid (upd_zero hl)
              clear hl hr
              go_wp2_with fail
              refine (IN.out _).mono ?_; rintro e w2 ⟨rfl, rfl⟩
              go_wp2_with fail
              have kx := K.out w2 HP.out.bel
              have SC := Lib.hid (stop_any (fun k => k < w.heap.size ∨ k = lb) b k left x0 w2 HP.out.wh hx0)
              rw [HC.out, er_5] at SC
              refine SC.out.mono ?_; rintro e w3 ⟨rfl, hW3, hK3⟩
              have HP3 := Lib.hid (HP.out.wheel hW3 hK3)
              have ER := Lib.hid (err_same 5 w3 (HH.out _ HP3.out.bel))
              rw [er_5] at ER
              clear SC hW3 hK3
              go_wp2_with fail
              refine ER.out.mono ?_; rintro e w4 ⟨rfl, hb4⟩
              have HP4 : Hid (PS w w4 b lb (k + 1) (left) (left)) := Lib.hid (by
                have h := (HP3.out.below hb4).mono (Nat.le_succ k)
                rw [HU.out] at h
                exact h)
              clear ER hb4 HP3
              go_wp2_with fail
              go_roundw
              case rel => exact ⟨k + 1, by first | rfl | go_num, by omega, by omega, _, HP4⟩
              case measure => simp [intOf]; omega
          · by_cases h2 : row.length = 2
            · have hq2 := hq'
              rw [h2] at hq2
              clear hq'
              obtain ⟨x0, x1, rfl⟩ : ∃ x0 x1, row = [x0, x1] := by
                match row, h2 with
                | [x0, x1], _ => exact ⟨x0, x1, rfl⟩
              obtain ⟨bb, off, rfl, hbb, hcs⟩ := hI.2.2.2 (by simp)
              have K := Lib.hid (fun (W' : World) (hb : Below w.heap.size w W') => show W'.cell? ⟨bb, off, none⟩ = some (.int .i64 x0) ∧ W'.cell? ⟨bb, off + 1, none⟩ = some (.int .i64 x1) from ⟨(hb.cell (p := ⟨bb, off, none⟩) hbb).trans (hcs 0 (by simp)), (hb.cell (p := ⟨bb, off + 1, none⟩) hbb).trans (hcs 1 (by simp))⟩)
              clear hcs hI hbb
              have kx := K.out wr HP.out.bel
              obtain ⟨kx0, kx1⟩ := kx
              have IN := Lib.hid (fun W => Go.Proofs.YtjknojfdlpgicaaDoor.Rtt.in_any x0 0 19 W (decide (0 ≤ x0 ∧ x0 ≤ 19)) (by rw [Bool.eq_iff_iff]; simp))
              have IN1 := Lib.hid (fun W => Go.Proofs.YtjknojfdlpgicaaDoor.Rtt.in_any x1 1 400 W (decide (1 ≤ x1 ∧ x1 ≤ 400)) (by rw [Bool.eq_iff_iff]; simp))
              by_cases hr : 0 ≤ x0 ∧ x0 ≤ 19
              · rw [decide_eq_true hr] at IN
                by_cases hr1 : 1 ≤ x1 ∧ x1 ≤ 400
                · rw [decide_eq_true hr1] at IN1
                  obtain ⟨j, rfl⟩ : ∃ j : Nat, (j : Int) = x0 := ⟨x0.toNat, by omega⟩
                  have hj20 : j < 20 := by omega
                  have hj5 : (j : Int) < 20 := by omega
                  have cj := HP.out.cell hj20
                  have fj := HP.out.fz j
                  by_cases hl : left (j : Int) = 0
                  · rw [hl] at cj
                    have cj : wr.cell? ⟨lb, j, none⟩ = some (.int .i64 0) := cj
                    obtain ⟨a, rfl⟩ : ∃ a : Nat, (a : Int) = x1 := ⟨x1.toNat, by omega⟩
                    have hc : startC left (j : Int) (a : Int) = 0 := by unfold startC; rw [if_pos (by omega), if_pos hl]
                    have HC := Lib.hid hc
                    have HL : Hid (startL left (j : Int) (a : Int) = updZ left (j : Int) a) := Lib.hid (by unfold startL; rw [if_pos hc, Int.toNat_natCast])
                    have HP2 : Hid (PS w ((wr.setCell ⟨lb, j, none⟩ (.int .i64 (a : Int))).drew) b lb k (updZ left (j : Int) a) left) := Lib.hid ((HP.out.set hj20 a (by omega)).drewN 1)
                    clear hl hc
                    go_wp2_with fail
                    refine (IN.out _).mono ?_; rintro e w2 ⟨rfl, rfl⟩
                    go_wp2_with fail
                    refine (IN1.out _).mono ?_; rintro e w3 ⟨rfl, rfl⟩
                    go_wp2_with fail
                    go_region_held3 (fun W' => W'.cell? ⟨bb, off, none⟩ = some (.int .i64 (j : Int)) ∧ W'.cell? ⟨bb, off + 1, none⟩ = some (.int .i64 (a : Int)))
                      (first
                        | exact ⟨kx0, kx1⟩
                        | exact K.out _ HP2.out.bel
                        | go_keep)
                      (first
                        | fail)
                    generalize (w3.setCell ⟨lb, j, none⟩ (.int .i64 (a : Int))).drew = w4 at HP2 ⊢
                    clear kx0 kx1 cj fj
                    have HPd := Lib.hid (HP2.out.drewN 1)
                    change Hid (PS w w4.drew b lb k (updZ left (j : Int) a) left) at HPd
                    have SC := Lib.hid (start_any (fun k => k < w.heap.size ∨ k = lb) b k left (j : Int) (a : Int) w4.drew HPd.out.wh (by omega))
                    rw [HC.out, HL.out, er_0] at SC
                    go_wp2_with fail
                    go_region_held3 (fun W' => W'.cell? ⟨bb, off, none⟩ = some (.int .i64 (j : Int)) ∧ W'.cell? ⟨bb, off + 1, none⟩ = some (.int .i64 (a : Int)))
                      (first
                        | exact K.out _ HPd.out.bel
                        | exact K.out _ HP8.out.bel
                        | exact K.out _ HP9.out.bel
                        | go_keep)
                      (first
                        | (go_at_call 7; refine SC.out.mono ?_; rintro e w8 ⟨rfl, hW8, hK8⟩
                           have HP8 := Lib.hid (HPd.out.wheel hW8 hK8)
                           have ER := Lib.hid (err_same 0 w8 (HH.out _ HP8.out.bel))
                           rw [er_0] at ER
                           clear hW8 hK8)
                        | (go_at_call 11; refine ER.out.mono ?_; rintro e w9 ⟨rfl, hb9⟩
                           have HP9 := Lib.hid (HP8.out.below hb9)
                           clear hb9))
                    go_wp2_with fail
                    go_roundw
                    case rel => exact ⟨k + 1, by first | rfl | go_num, by omega, by omega, _, HP9⟩
                    case measure => simp [intOf]; omega
                  · obtain ⟨x, hx⟩ : ∃ x, left (j : Int) = x := ⟨_, rfl⟩
                    rw [hx] at cj
                    have t5 : decide (0 < (x : Int)) = true := decide_eq_true (by omega)
                    have t6 : 0 < x := by omega
                    have hc : startC left (j : Int) x1 = 6 := by unfold startC; rw [if_pos (by omega), if_neg hl]
                    have HC := Lib.hid hc
                    have HL : Hid (startL left (j : Int) x1 = left) := Lib.hid (by unfold startL; rw [if_neg (by omega)])
                    clear hl hc hx
                    go_wp2_with fail
                    refine (IN.out _).mono ?_; rintro e w2 ⟨rfl, rfl⟩
                    go_wp2_with fail
                    refine (IN1.out _).mono ?_; rintro e w3 ⟨rfl, rfl⟩
                    have HPd := Lib.hid (HP.out.drewN 1)
                    change Hid (PS w w3.drew b lb k (left) left) at HPd
                    have SC := Lib.hid (start_any (fun k => k < w.heap.size ∨ k = lb) b k left (j : Int) x1 w3.drew HPd.out.wh (by omega))
                    rw [HC.out, HL.out, er_6] at SC
                    go_wp2_with fail
                    go_region_held3 (fun W' => W'.cell? ⟨bb, off, none⟩ = some (.int .i64 (j : Int)) ∧ W'.cell? ⟨bb, off + 1, none⟩ = some (.int .i64 x1))
                      (first
                        | exact K.out _ HPd.out.bel
                        | exact K.out _ HP8.out.bel
                        | exact K.out _ HP9.out.bel
                        | go_keep)
                      (first
                        | (go_at_call 7; refine SC.out.mono ?_; rintro e w8 ⟨rfl, hW8, hK8⟩
                           have HP8 := Lib.hid (HPd.out.wheel hW8 hK8)
                           have ER := Lib.hid (err_same 6 w8 (HH.out _ HP8.out.bel))
                           rw [er_6] at ER
                           clear hW8 hK8)
                        | (go_at_call 11; refine ER.out.mono ?_; rintro e w9 ⟨rfl, hb9⟩
                           have HP9 := Lib.hid (HP8.out.below hb9)
                           clear hb9))
                    go_wp2_with fail
                    go_roundw
                    case rel => exact ⟨k + 1, by first | rfl | go_num, by omega, by omega, _, HP9⟩
                    case measure => simp [intOf]; omega
                · rw [decide_eq_false hr1] at IN1
                  have hc : startC left x0 x1 = 1 := by unfold startC; rw [if_neg (by omega)]
                  have HC := Lib.hid hc
                  have HL : Hid (startL left x0 x1 = left) := Lib.hid (by unfold startL; rw [if_neg (by omega)])
                  clear hc
                  go_wp2_with fail
                  refine (IN.out _).mono ?_; rintro e w2 ⟨rfl, rfl⟩
                  go_wp2_with fail
                  refine (IN1.out _).mono ?_; rintro e w3 ⟨rfl, rfl⟩
                  have HPd := Lib.hid (HP.out.drewN 1)
                  change Hid (PS w w3.drew b lb k (left) left) at HPd
                  have SC := Lib.hid (start_any (fun k => k < w.heap.size ∨ k = lb) b k left x0 x1 w3.drew HPd.out.wh (by omega))
                  rw [HC.out, HL.out, er_1] at SC
                  go_wp2_with fail
                  go_region_held3 (fun W' => W'.cell? ⟨bb, off, none⟩ = some (.int .i64 x0) ∧ W'.cell? ⟨bb, off + 1, none⟩ = some (.int .i64 x1))
                    (first
                      | exact K.out _ HPd.out.bel
                      | exact K.out _ HP8.out.bel
                      | exact K.out _ HP9.out.bel
                      | go_keep)
                    (first
                      | (go_at_call 7; refine SC.out.mono ?_; rintro e w8 ⟨rfl, hW8, hK8⟩
                         have HP8 := Lib.hid (HPd.out.wheel hW8 hK8)
                         have ER := Lib.hid (err_same 1 w8 (HH.out _ HP8.out.bel))
                         rw [er_1] at ER
                         clear hW8 hK8)
                      | (go_at_call 11; refine ER.out.mono ?_; rintro e w9 ⟨rfl, hb9⟩
                         have HP9 := Lib.hid (HP8.out.below hb9)
                         clear hb9))
                  go_wp2_with fail
                  go_roundw
                  case rel => exact ⟨k + 1, by first | rfl | go_num, by omega, by omega, _, HP9⟩
                  case measure => simp [intOf]; omega
              · rw [decide_eq_false hr] at IN
                have hc : startC left x0 x1 = 1 := by unfold startC; rw [if_neg (by omega)]
                have HC := Lib.hid hc
                have HL : Hid (startL left x0 x1 = left) := Lib.hid (by unfold startL; rw [if_neg (by omega)])
                clear hc
                go_wp2_with fail
                refine (IN.out _).mono ?_; rintro e w3 ⟨rfl, rfl⟩
                have HPd := Lib.hid (HP.out.drewN 1)
                change Hid (PS w w3.drew b lb k (left) left) at HPd
                have SC := Lib.hid (start_any (fun k => k < w.heap.size ∨ k = lb) b k left x0 x1 w3.drew HPd.out.wh (by omega))
                rw [HC.out, HL.out, er_1] at SC
                go_wp2_with fail
                go_region_held3 (fun W' => W'.cell? ⟨bb, off, none⟩ = some (.int .i64 x0) ∧ W'.cell? ⟨bb, off + 1, none⟩ = some (.int .i64 x1))
                  (first
                    | exact K.out _ HPd.out.bel
                    | exact K.out _ HP8.out.bel
                    | exact K.out _ HP9.out.bel
                    | go_keep)
                  (first
                    | (go_at_call 7; refine SC.out.mono ?_; rintro e w8 ⟨rfl, hW8, hK8⟩
                       have HP8 := Lib.hid (HPd.out.wheel hW8 hK8)
                       have ER := Lib.hid (err_same 1 w8 (HH.out _ HP8.out.bel))
                       rw [er_1] at ER
                       clear hW8 hK8)
                    | (go_at_call 11; refine ER.out.mono ?_; rintro e w9 ⟨rfl, hb9⟩
                       have HP9 := Lib.hid (HP8.out.below hb9)
                       clear hb9))
                go_wp2_with fail
                go_roundw
                case rel => exact ⟨k + 1, by first | rfl | go_num, by omega, by omega, _, HP9⟩
                case measure => simp [intOf]; omega
            · have s0 : ((row.length : Int) == 0) = false := by rw [beq_eq_false_iff_ne]; omega
              have s1 : ((row.length : Int) == 1) = false := by rw [beq_eq_false_iff_ne]; omega
              have s2 : ((row.length : Int) == 2) = false := by rw [beq_eq_false_iff_ne]; omega
              go_wp2_with fail
              go_roundw
              case rel => exact ⟨k + 1, by first | rfl | go_num, by omega, by omega, left, Lib.hid (HP.out.mono (Nat.le_succ k))⟩
              case measure => simp [intOf]; omega
      · have t2 : decide ((k : Int) < 200) = false := decide_eq_false (by omega)
        go_wp2_with fail
        go_loopw [11] (fun iv wr => ∃ j : Nat, iv = .int .i64 (j : Int) ∧ j ≤ 20 ∧ Hid (PS w wr b lb k left left)) (fun i _ => 20 - (intOf i).toNat)
        case atStart => exact ⟨0, rfl, Nat.zero_le _, HP⟩
        case round =>
          clear HP
          obtain ⟨j, rfl, hj, HP⟩ := hrel
          by_cases hj20 : j < 20
          · have t3 : decide ((j : Int) < 20) = true := decide_eq_true (by omega)
            have hj5 : (j : Int) < 20 := by omega
            have cj := HP.out.cell hj20
            have C := Lib.hid (left_any (fun k => k < w.heap.size ∨ k = lb) b k left (j : Int) wr HP.out.wh (wf_of (by omega)))
            by_cases hl : left (j : Int) = 0
            · rw [hl] at cj
              have cj : wr.cell? ⟨lb, j, none⟩ = some (.int .i64 0) := cj
              rw [if_pos hl] at C
              clear hl
              go_wp2_with fail
              refine C.out.mono ?_; rintro e w3 ⟨rfl, m3, rfl⟩
              go_wp2_with fail
              go_roundw
              case rel => exact ⟨j + 1, by first | rfl | go_num, by omega, Lib.hid (HP.out.drewN m3)⟩
              case measure => simp [intOf]; omega
            · rw [if_neg hl] at C
              obtain ⟨x, hx⟩ : ∃ x, left (j : Int) = x := ⟨_, rfl⟩
              rw [hx] at cj C
              have t4 : ((x : Int) == 0) = false := by rw [beq_eq_false_iff_ne]; omega
              have t5 : ((x : Int) != (x : Int)) = false := by simp
              clear hl hx
              go_wp2_with fail
              refine C.out.mono ?_; rintro e w3 ⟨rfl, m3, rfl⟩
              go_wp2_with fail
              go_roundw
              case rel => exact ⟨j + 1, by first | rfl | go_num, by omega, Lib.hid (HP.out.drewN m3)⟩
              case measure => simp [intOf]; omega
          · obtain rfl : j = 20 := by omega
            have t3 : decide (((20 : Nat) : Int) < 20) = false := by decide
            have C := Lib.hid (left_any (fun k => k < w.heap.size ∨ k = lb) b k left (-1) wr HP.out.wh (by decide))
            rw [if_pos (Decidable.byContradiction fun h => by have := HG.out (-1) h; omega)] at C
            go_wp2_with fail
            refine C.out.mono ?_; rintro e w3 ⟨rfl, m3, rfl⟩
            have C2 := Lib.hid (left_any (fun k => k < w.heap.size ∨ k = lb) b k left 20 (wr.drewN m3) (HP.out.drewN m3).wh (by decide))
            rw [if_pos (Decidable.byContradiction fun h => by have := HG.out 20 h; omega)] at C2
            clear C
            go_wp2_with fail
            refine C2.out.mono ?_; rintro e w4 ⟨rfl, m4, rfl⟩
            go_wp2_with fail
            go_ret
            exact ⟨by first | rfl | simp, by first | exact ((HP.out.drewN m3).drewN m4).bel | exact (HP.out.drewN (m3 + m4)).bel⟩
    · have t1 : decide ((k : Int) < (n : Int)) = false := decide_eq_false (by omega)
      go_wp2_with fail
      go_loopw [11] (fun iv wr => ∃ j : Nat, iv = .int .i64 (j : Int) ∧ j ≤ 20 ∧ Hid (PS w wr b lb k left left)) (fun i _ => 20 - (intOf i).toNat)
      case atStart => exact ⟨0, rfl, Nat.zero_le _, HP⟩
      case round =>
        clear HP
        obtain ⟨j, rfl, hj, HP⟩ := hrel
        by_cases hj20 : j < 20
        · have t3 : decide ((j : Int) < 20) = true := decide_eq_true (by omega)
          have hj5 : (j : Int) < 20 := by omega
          have cj := HP.out.cell hj20
          have C := Lib.hid (left_any (fun k => k < w.heap.size ∨ k = lb) b k left (j : Int) wr HP.out.wh (wf_of (by omega)))
          by_cases hl : left (j : Int) = 0
          · rw [hl] at cj
            have cj : wr.cell? ⟨lb, j, none⟩ = some (.int .i64 0) := cj
            rw [if_pos hl] at C
            clear hl
            go_wp2_with fail
            refine C.out.mono ?_; rintro e w3 ⟨rfl, m3, rfl⟩
            go_wp2_with fail
            go_roundw
            case rel => exact ⟨j + 1, by first | rfl | go_num, by omega, Lib.hid (HP.out.drewN m3)⟩
            case measure => simp [intOf]; omega
          · rw [if_neg hl] at C
            obtain ⟨x, hx⟩ : ∃ x, left (j : Int) = x := ⟨_, rfl⟩
            rw [hx] at cj C
            have t4 : ((x : Int) == 0) = false := by rw [beq_eq_false_iff_ne]; omega
            have t5 : ((x : Int) != (x : Int)) = false := by simp
            clear hl hx
            go_wp2_with fail
            refine C.out.mono ?_; rintro e w3 ⟨rfl, m3, rfl⟩
            go_wp2_with fail
            go_roundw
            case rel => exact ⟨j + 1, by first | rfl | go_num, by omega, Lib.hid (HP.out.drewN m3)⟩
            case measure => simp [intOf]; omega
        · obtain rfl : j = 20 := by omega
          have t3 : decide (((20 : Nat) : Int) < 20) = false := by decide
          have C := Lib.hid (left_any (fun k => k < w.heap.size ∨ k = lb) b k left (-1) wr HP.out.wh (by decide))
          rw [if_pos (Decidable.byContradiction fun h => by have := HG.out (-1) h; omega)] at C
          go_wp2_with fail
          refine C.out.mono ?_; rintro e w3 ⟨rfl, m3, rfl⟩
          have C2 := Lib.hid (left_any (fun k => k < w.heap.size ∨ k = lb) b k left 20 (wr.drewN m3) (HP.out.drewN m3).wh (by decide))
          rw [if_pos (Decidable.byContradiction fun h => by have := HG.out 20 h; omega)] at C2
          clear C
          go_wp2_with fail
          refine C2.out.mono ?_; rintro e w4 ⟨rfl, m4, rfl⟩
          go_wp2_with fail
          go_ret
          exact ⟨by first | rfl | simp, by first | exact ((HP.out.drewN m3).drewN m4).bel | exact (HP.out.drewN (m3 + m4)).bel⟩

theorem reads : Tryd.f4.params.toList.all (fun t => Tryd.prog.readableRec t && decide (t < Tryd.prog.types.size)) = true := by kernel_rfl
theorem et : Tryd.prog.globalNamed "errors.errorType" = some 0 := by kernel_rfl
theorem rt : (Tryd.prog.cutTypes.find? (·.1 == "internal/reflectlite.rtype")).map (·.2) = some 85 := by kernel_rfl
theorem oneRow : ((List.range Tryd.prog.types.size).filter fun t => Tryd.prog.rowNamed t [101, 114, 114, 111, 114]) = [26] := by kernel_rfl

theorem handle_of_laid {W : World} (h : laidMetH Tryd.prog Rows.wheelPlaysRow.laid W) : Handle W := by
  have h' : laidMet Tryd.prog [] W ∧ handlesMet Tryd.prog Rows.wheelPlaysRow.laid W := h
  obtain ⟨name, u, ty, e1, e2, e3, e4, e5⟩ := h'.2 _ (List.mem_singleton.2 rfl)
  have en : name = [101, 114, 114, 111, 114] := (Option.some.inj e1).symm
  subst en
  obtain rfl := Option.some.inj (rt.symm.trans e2)
  have hm : ty ∈ (List.range Tryd.prog.types.size).filter fun t => Tryd.prog.rowNamed t [101, 114, 114, 111, 114] := List.mem_filter.2 ⟨List.mem_range.2 e3, e4⟩
  rw [oneRow] at hm
  obtain rfl := List.mem_singleton.1 hm
  have hh : typeHandle Tryd.prog 26 = .pointer (some ⟨1, 26, none⟩) := by kernel_rfl
  rw [hh] at e5
  have e6 := World.var?_cell et e5 0
  unfold Handle
  simpa using e6

noncomputable def laidWorld (os : Os) : World :=
  { World.holding Tryd.prog os ⟨#[], #[], []⟩ with heap := (World.holding Tryd.prog os ⟨#[], #[], []⟩).heap.modify 0 fun
      | .cells _ t frozen => .cells #[.iface 85 (.agg #[.pointer (some ⟨1, 26, none⟩)])] t frozen
      | o => o }
theorem laid_met (os : Os) : laidMetH Tryd.prog Rows.wheelPlaysRow.laid ((laidWorld os).forCall (fun _ _ => 0) ⟨#[], #[.slice none 0 0], []⟩).memory :=
  laidMetH_of_parts (laidMet_nil _ _) (by kernel_rfl)
theorem reads_wit (os : Os) {H : Type} (enc : TypeId × Value → H) : ∃ places, DataW.whole enc Tryd.prog ((laidWorld os).forCall (fun _ _ => 0) ⟨#[], #[.slice none 0 0], []⟩).memory Tryd.f4.params.toList Rows.wheelPlaysSpec.vars false (#[.slice none 0 0] : Array Value).toList 8 = some ([.nil], [], places) :=
  ⟨[], by kernel_rfl⟩

theorem contract (H : Type) (enc : TypeId × Value → H) (W : World) (base : Nat) (args : Array Value) (ds gs : List (DataW H)) (before : List MemPlace)
    (hval : ∀ (j : Nat) t v, Tryd.f4.params[j]? = some t → args[j]? = some v → Value.okWide Tryd.prog W .any base t v)
    (hW : DataW.Whole enc Tryd.prog Tryd.f4.params.toList Rows.wheelPlaysSpec.vars false W args.toList ds gs before) (hL : laidMetH Tryd.prog Rows.wheelPlaysRow.laid W) :
    Calls Tryd.prog 4 args W fun e W' => ∃ v, e = .returned v ∧ Rows.wheelPlaysSpec.post enc Tryd.prog Tryd.f4 false true false false W args v W' := by
  have hW' := hW
  have hg := handle_of_laid hL
  obtain ⟨p, q, hA0, hV, rfl, hfz, hnd⟩ := hW
  have hA : DataW.TrodAll enc Tryd.prog W 0 (fun _ => true) true Tryd.f4.params.toList args.toList ds p := hA0
  have hlt := hA.lt
  rw [Tryd.params4] at hA hval
  obtain ⟨v0, vs0, d0, ds0, p0, q0, hargs, rfl, rfl, h0, r0⟩ := trodAll_cons hA
  obtain ⟨hvsn, rfl, rfl⟩ := trodAll_nil r0
  simp only [hvsn] at hargs
  obtain rfl : args = #[v0] := by cases args; simp_all
  obtain ⟨p0a, cap0, l0, rfl, i0, e0⟩ := open_rows Tryd.underlying35 Tryd.underlying29 Tryd.underlying3 (by kernel_rfl) (by kernel_rfl) (hval 0 35 v0 rfl rfl) h0 (fun x hx => hlt x (by simp [hx]))
  obtain ⟨rfl, rfl⟩ := trodVars_none hV
  clear hA0
  exact law_post 4 laid reads rfl Tryd.underlying4 rfl hW' ⟨rfl, rfl, rfl⟩ (core _ _ _ l0 W hg rfl i0)

set_option maxRecDepth 100000 in
theorem lifted (os : Os) (started : os.Started) (H : Type) (enc : TypeId × Value → H) (F : Stop.Interp) :
    ReturnsInHanded {} Tryd.checked os 4 .any ((OpenSpec.ofChange Rows.wheelPlaysSpec).preRow enc Tryd.prog Tryd.f4 Rows.wheelPlaysRow.domain false Rows.wheelPlaysRow.laid) (((OpenSpec.ofChange Rows.wheelPlaysSpec).at F).post enc Tryd.prog Tryd.f4 false true false false) := by
  obtain ⟨places, hx⟩ := reads_wit os enc
  refine returnsInHanded_of_row (C := Tryd.checked) (s := (OpenSpec.ofChange Rows.wheelPlaysSpec)) own started (by kernel_rfl) Tryd.func4
    (witness_row_at (enc := enc) (C := Tryd.checked) false (laidWorld os) #[.slice none 0 0] rfl (by kernel_rfl) (by kernel_rfl) (by kernel_rfl)
      (OpenSpec.preRow_of_cond 8 hx (by kernel_rfl) (fun k hk => by cases hk) (by kernel_rfl) (laid_met os))) ?_
  intro W base args ds gs before hval hW _ hcond _ hL _ _
  exact contract H enc W base args ds gs before hval hW hL

theorem said : Rows.WheelPlaysSaid :=
  OpenClaim.holds_of_cond 4 Tryd.f4 rfl rfl rfl rfl rfl rfl rfl ⟨rfl, rfl, rfl, rfl, rfl⟩ rfl rfl rfl rfl rfl (by kernel_rfl) Tryd.func4 (by kernel_rfl)
    (of_decide_eq_true (by kernel_rfl)) (by unfold Func.isWrapper; first | (rw [if_pos (by decide +kernel)]; kernel_rfl) | (rw [if_neg (by decide +kernel)]; exact ⟨rfl, rfl⟩))
    (fun os started H enc _ F => by rw [OpenClaim.pre_eq_preRow]; exact lifted os started H enc F)

theorem plain (f : FuncId) (fn : Func) (hf : Tryd.pinned.checked.prog.funcNamed Rows.wheelPlaysRow.func = some f) (hfn : Tryd.pinned.checked.prog.funcs[f]? = some fn) :
    true = Tryd.pinned.checked.prog.looks [] ∧ ∀ (j : Nat) t, fn.params[j]? = some t → Tryd.pinned.checked.prog.wantsStandIn t = false := by
  obtain rfl : f = 4 := Option.some.inj ((show Tryd.prog.funcNamed Rows.wheelPlaysRow.func = some 4 by kernel_rfl).symm.trans hf) |>.symm
  obtain rfl : fn = Tryd.f4 := (Option.some.inj (Tryd.func4.symm.trans hfn)).symm
  refine ⟨by kernel_rfl, fun j t ht => ?_⟩
  have hall : Tryd.f4.params.toList.all (fun t => !Tryd.prog.wantsStandIn t) = true := by kernel_rfl
  have hm : t ∈ Tryd.f4.params.toList := by simpa using Array.mem_of_getElem? ht
  have := List.all_eq_true.1 hall t hm
  show Tryd.prog.wantsStandIn t = false
  simpa using this

theorem proved : Rows.WheelPlaysCardSaid :=
  Claim7.holds_tied_plain_at .later [] _ _ _ _ said (fun _ h => by cases h) (by kernel_rfl) (fun _ h => by cases h) wheelPlays_row_tie rfl ⟨rfl, rfl⟩ (by kernel_rfl) rfl plain (by kernel_rfl)
end Go.Proofs.YtjknojfdlpgicaaDoor.WheelPlaysL
