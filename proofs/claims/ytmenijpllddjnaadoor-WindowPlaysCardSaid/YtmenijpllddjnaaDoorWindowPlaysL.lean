/- WindowPlays: for any sequence of operations on a pipe, all results are as specified: for every input, the row's handle laid as the card says. -/
import Derived.Test.YtmenijpllddjnaaDoorCards
import Derived.Test.YtmenijpllddjnaaDoorTie
import Derived.Deep.DeepHandedRow
import Derived.Lib.LaidTab
import Derived.LaidHandle
import Derived.SevenTiedAt
import Derived.Test.YtmenijpllddjnaaDoorWindowLaw
import Derived.Test.YtmenijpllddjnaaDoorWindowResize
import Derived.Test.YtmenijpllddjnaaDoorRows0
namespace Go.Proofs.YtmenijpllddjnaaDoor.WindowPlaysL
open Go.ChangeShapes Go.WideShapes Go.ChangeAt Go.RowKit Go.Proofs.YtmenijpllddjnaaDoor.Kit Go.Proofs.YtmenijpllddjnaaDoor.App Go.Proofs.YtmenijpllddjnaaDoor.Err Go.Proofs.YtmenijpllddjnaaDoor.Window Go.Proofs.YtmenijpllddjnaaDoor.As
set_option linter.unusedVariables false
set_option maxRecDepth 20000

abbrev Law (n : Int) (p : Option Addr) (m cap : Nat) (w : World) : Prop := Calls Tryd.prog 4 #[.int .i64 n, .slice p m cap] w fun e w' => e = .returned (.bool true) ∧ Below w.heap.size w w'
/-- The document's pipe lies in block b. -/
abbrev Doc (w : World) (b : Nat) (r q c : Int) : Prop := Blk 38 w b [.int .i64 q, .int .i64 c, .int .i64 r]
theorem law_bad (n : Int) (p : Option Addr) (m cap : Nat) (w : World) (hg : Handle w) (hn : ¬ (0 ≤ n ∧ n ≤ 100)) : Law n p m cap w := by
  have NB := Lib.hid (new_bad n w hn)
  have IN := Lib.hid (Go.Proofs.YtmenijpllddjnaaDoor.Rtt.in_any n 0 100 w false (in_false hn))
  have ER := Lib.hid (err_same 1 w hg)
  rw [er_1] at NB ER
  clear hg
  unfold Law
  go_enter Tryd.func4, Tryd.ntmps4
  go_wp2_with fail
  refine NB.out.mono ?_; rintro e w1 ⟨rfl, rfl⟩
  go_wp2_with fail
  refine IN.out.mono ?_; rintro e w2 ⟨rfl, rfl⟩
  go_wp2_with fail
  refine ER.out.mono ?_; rintro e w3 ⟨rfl, hb3⟩
  go_wp2_with fail
  go_ret
  exact ⟨rfl, hb3⟩
set_option maxHeartbeats 4000000 in
theorem law_good (n0 : Int) (p0 : Option Addr) (n cap : Nat) (ls : List (List Int)) (w : World) (hH : Handle w) (hn0 : 0 ≤ n0 ∧ n0 ≤ 100) (hn : n = ls.length) (hR : RowsI w p0 cap ls) : Law n0 p0 n cap w := by
  have NG := Lib.hid (new_good n0 w hn0)
  have IN0 := Lib.hid (fun W => Go.Proofs.YtmenijpllddjnaaDoor.Rtt.in_any n0 0 100 W true (in_true hn0))
  have HH := Lib.hid (fun W (hb : Below w.heap.size w W) => hH.below hb)
  have HR := Lib.hid hR
  have hcap := hR.len_le
  rw [← hn] at hcap
  have HN := Lib.hid hn
  clear hn hR hH
  unfold Law
  go_enter Tryd.func4, Tryd.ntmps4
  go_wp2_with fail
  refine NG.out.mono ?_; rintro e w1 ⟨rfl, hT1, hb1⟩
  have HT1 := Lib.hid hT1
  have hgl := hT1.lt
  clear NG hT1
  obtain ⟨g, hg⟩ : ∃ g, w.heap.size = g := ⟨_, rfl⟩
  have HG := Lib.hid (Nat.le_of_eq hg)
  rw [hg] at HT1 hgl
  rw [hg] at ⊢
  clear hg
  go_wp2_with fail
  refine (IN0.out _).mono ?_; rintro e w1 ⟨rfl, rfl⟩
  go_wp2_with fail
  obtain ⟨xb, hxb⟩ : ∃ b, w1.heap.size = b := ⟨_, rfl⟩
  have HX1 : Hid (Doc _ _ n0 0 n0) := Lib.hid (Blk.new w1 38 [.int .i64 0, .int .i64 n0, .int .i64 n0])
  rw [hxb] at HX1 hgl ⊢
  have HT2 := Lib.hid (HT1.out.alloc (.cells #[.int .i64 0, .int .i64 n0, .int .i64 n0] 38))
  have HB2 := Lib.hid (balloc hb1 (.cells #[.int .i64 0, .int .i64 n0, .int .i64 n0] 38))
  have HNE := Lib.hid (Nat.ne_of_lt hgl)
  have HWB := Lib.hid (Nat.le_trans hb1.size (Nat.le_of_eq hxb))
  have HO2 := Lib.hid (show Ok n0 0 n0 by unfold Ok; omega)
  clear hxb HT1 hb1 IN0
  generalize w1.alloc (.cells #[.int .i64 0, .int .i64 n0, .int .i64 n0] 38) = w2 at HX1 HT2 HB2 ⊢
  go_loopw [8] (fun iv wr => ∃ k : Nat, iv = .int .i64 (k : Int) ∧ k ≤ n ∧ ∃ r b c, Hid (Pip wr g r b c) ∧ Hid (Doc wr xb r b c) ∧ Hid (Ok r b c) ∧ Hid (Below w.heap.size w wr)) (fun i _ => n - (intOf i).toNat)
  case atStart => exact ⟨0, rfl, Nat.zero_le _, n0, 0, n0, HT2, HX1, HO2, HB2⟩
  case round =>
    obtain ⟨k, rfl, hk, r0, b0, c0, HT0, HX0, HO0, HB0⟩ := hrel
    clear HT2 HX1 HO2 HB2
    by_cases hkn : k < n
    · have t1 : decide ((k : Int) < (n : Int)) = true := decide_eq_true (by omega)
      by_cases hk60 : k < 60
      · have t2 : decide ((k : Int) < 60) = true := decide_eq_true (by omega)
        obtain ⟨d0, off0, rfl, hd0, hrow⟩ := HR.out.2.2 (by have := HN.out; omega)
        obtain ⟨qr, cr, hq, hI⟩ := hrow k (by have := HN.out; omega)
        have hq' : wr.cell? ⟨d0, off0 + k, none⟩ = some (.slice qr (ls[k]?.getD []).length cr) := (HB0.out.cell (p := ⟨d0, off0 + k, none⟩) hd0).trans hq
        clear hq hrow hd0
        generalize ls[k]?.getD [] = row at hq' hI
        by_cases h2 : row.length = 2
        · obtain ⟨bb, off, rfl, hbb, hcs⟩ := hI.2.2.2 (by omega)
          have hx : wr.cell? ⟨bb, off, none⟩ = some (.int .i64 (row[0]?.getD 0)) := (HB0.out.cell (p := ⟨bb, off, none⟩) hbb).trans (hcs 0 (by omega))
          have hy : wr.cell? ⟨bb, off + 1, none⟩ = some (.int .i64 (row[1]?.getD 0)) := (HB0.out.cell (p := ⟨bb, off + 1, none⟩) hbb).trans (hcs 1 (by omega))
          generalize row[0]?.getD 0 = x at hx
          generalize row[1]?.getD 0 = y at hy
          rw [h2] at hq'
          clear hcs hI hbb h2
          obtain ⟨o1, o2, o3, o4⟩ := HO0.out
          by_cases hyr : 0 ≤ y ∧ y ≤ 100
          · obtain ⟨y1, y2⟩ := id hyr
            have IN := Lib.hid (Go.Proofs.YtmenijpllddjnaaDoor.Rtt.in_any y 0 100 wr true (in_true hyr))
            have x0 := HX0.out.cell 0 _ rfl
            have x1 := HX0.out.cell 1 _ rfl
            have x2 := HX0.out.cell 2 _ rfl
            have f0 := HX0.out.fz 0
            have f1 := HX0.out.fz 1
            have f2 := HX0.out.fz 2
            by_cases hx0 : x = 0
            · have t3 : (x == 0) = true := by rw [beq_iff_eq]; exact hx0
              clear hx0
              go_wp2_with fail
              refine IN.out.mono ?_; rintro e wr ⟨rfl, rfl⟩
              clear IN
              by_cases hc : c0 < y
              · have t5 : decide (c0 < y) = true := decide_eq_true hc
                have CC := Lib.hid (send_full g r0 b0 c0 y wr HT0.out (by omega) (by omega))
                rw [er_4] at CC
                go_wp2_with fail
                refine CC.out.mono ?_; rintro e w4 ⟨rfl, rfl⟩
                clear CC
                have HT := HT0
                have HX := HX0
                have HB := HB0
                have HO := HO0
                go_wp2_with fail
                refine (waits_any g r0 b0 c0 w4 HT.out).mono ?_; rintro e w5 ⟨rfl, m5, rfl⟩
                have HB5 := Lib.hid (bdrewN HB.out m5)
                have HT5 := Lib.hid (HT.out.drewN m5)
                have HX5 := Lib.hid (HX.out.drewN m5)
                clear HT HX HB
                generalize w4.drewN m5 = w5 at HT5 HX5 HB5 ⊢
                have ER := Lib.hid (err_same 4 w5 (HH.out _ HB5.out))
                rw [er_4] at ER
                go_wp2_with fail
                refine ER.out.mono ?_; rintro e w6 ⟨rfl, hb6⟩
                have HB6 := Lib.hid (bcall HB5.out hb6)
                have HT6 := Lib.hid (HT5.out.below hb6)
                have HX6 := Lib.hid (HX5.out.below hb6)
                clear hb6 HB5 HT5 HX5 ER
                have x0 := HX6.out.cell 0 _ rfl
                have x1 := HX6.out.cell 1 _ rfl
                have t8 : (b0 != b0) = false := by simp
                have t9 : (c0 != c0) = false := by simp
                go_wp2_with fail
                go_roundw
                case rel => exact ⟨k + 1, by first | rfl | go_num, by omega, r0, b0, c0, HT6, HX6, HO, HB6⟩
                case measure => simp [intOf]; omega
              · have t5 : decide (c0 < y) = false := decide_eq_false hc
                go_wp2_with fail
                have HX1 := Lib.hid ((HX0.out.set 1 (.int .i64 (c0 - y))).set 0 (.int .i64 (b0 + y)))
                have HT1 := Lib.hid (((HT0.out).other xb 1 (.int .i64 (c0 - y)) HNE.out).other xb 0 (.int .i64 (b0 + y)) HNE.out)
                have HB1 := Lib.hid (below_set (below_set (HB0.out) xb 1 (.int .i64 (c0 - y)) HWB.out) xb 0 (.int .i64 (b0 + y)) HWB.out)
                clear x0 x1 x2 f0 f1 f2 HX0 HT0 HB0
                generalize ((wr).setCell ⟨xb, 1, none⟩ (.int .i64 (c0 - y))).setCell ⟨xb, 0, none⟩ (.int .i64 (b0 + y)) = w3 at HX1 HT1 HB1 ⊢
                have C := Lib.hid (send_good g r0 b0 c0 y w3 HT1.out HO0.out (by omega) (by omega))
                rw [er_0] at C
                refine C.out.mono ?_; rintro e w4 ⟨rfl, hT4, hg4⟩
                have HT4 := Lib.hid hT4
                have HX4 := Lib.hid (HX1.out.more hg4 (fun e => HNE.out (Option.some.inj e).symm))
                have HB := Lib.hid (gbelow HB1.out (Nat.le_refl _) hg4 HG.out)
                clear hT4 hg4 HX1 HT1 HB1 C
                have HO4 := Lib.hid (show Ok r0 (b0 + y) (c0 - y) by have := HO0.out; unfold Ok at this ⊢; omega)
                obtain ⟨b4, hb4⟩ : ∃ b4, (b0 + y) = b4 := ⟨_, rfl⟩
                obtain ⟨c4, hc4⟩ : ∃ c4, (c0 - y) = c4 := ⟨_, rfl⟩
                obtain ⟨r4, hr4⟩ : ∃ r4, r0 = r4 := ⟨_, rfl⟩
                have HT : Hid (Pip w4 g r4 b4 c4) := by rw [← hb4, ← hc4, ← hr4]; exact HT4
                have HX : Hid (Doc w4 xb r4 b4 c4) := by rw [← hb4, ← hc4, ← hr4]; exact HX4
                have HO : Hid (Ok r4 b4 c4) := by rw [← hb4, ← hc4, ← hr4]; exact HO4
                clear HT4 HX4 HO4 HO0 hb4 hc4 hr4
                go_wp2_with fail
                refine (waits_any g r4 b4 c4 w4 HT.out).mono ?_; rintro e w5 ⟨rfl, m5, rfl⟩
                have HB5 := Lib.hid (bdrewN HB.out m5)
                have HT5 := Lib.hid (HT.out.drewN m5)
                have HX5 := Lib.hid (HX.out.drewN m5)
                clear HT HX HB
                generalize w4.drewN m5 = w5 at HT5 HX5 HB5 ⊢
                have ER := Lib.hid (err_same 0 w5 (HH.out _ HB5.out))
                rw [er_0] at ER
                go_wp2_with fail
                refine ER.out.mono ?_; rintro e w6 ⟨rfl, hb6⟩
                have HB6 := Lib.hid (bcall HB5.out hb6)
                have HT6 := Lib.hid (HT5.out.below hb6)
                have HX6 := Lib.hid (HX5.out.below hb6)
                clear hb6 HB5 HT5 HX5 ER
                have x0 := HX6.out.cell 0 _ rfl
                have x1 := HX6.out.cell 1 _ rfl
                have t8 : (b4 != b4) = false := by simp
                have t9 : (c4 != c4) = false := by simp
                go_wp2_with fail
                go_roundw
                case rel => exact ⟨k + 1, by first | rfl | go_num, by omega, r4, b4, c4, HT6, HX6, HO, HB6⟩
                case measure => simp [intOf]; omega
            · have t3 : (x == 0) = false := by rw [beq_eq_false_iff_ne]; exact hx0
              by_cases hx1 : x = 1
              · have t4 : (x == 1) = true := by rw [beq_iff_eq]; exact hx1
                clear hx0 hx1
                go_wp2_with fail
                refine IN.out.mono ?_; rintro e wr ⟨rfl, rfl⟩
                clear IN
                by_cases hc : b0 < y
                · have t5 : decide (b0 < y) = true := decide_eq_true hc
                  have CC := Lib.hid (eat_none g r0 b0 c0 y wr HT0.out (by omega) (by omega))
                  rw [er_5] at CC
                  go_wp2_with fail
                  refine CC.out.mono ?_; rintro e w4 ⟨rfl, rfl⟩
                  clear CC
                  have HT := HT0
                  have HX := HX0
                  have HB := HB0
                  have HO := HO0
                  go_wp2_with fail
                  refine (waits_any g r0 b0 c0 w4 HT.out).mono ?_; rintro e w5 ⟨rfl, m5, rfl⟩
                  have HB5 := Lib.hid (bdrewN HB.out m5)
                  have HT5 := Lib.hid (HT.out.drewN m5)
                  have HX5 := Lib.hid (HX.out.drewN m5)
                  clear HT HX HB
                  generalize w4.drewN m5 = w5 at HT5 HX5 HB5 ⊢
                  have ER := Lib.hid (err_same 5 w5 (HH.out _ HB5.out))
                  rw [er_5] at ER
                  go_wp2_with fail
                  refine ER.out.mono ?_; rintro e w6 ⟨rfl, hb6⟩
                  have HB6 := Lib.hid (bcall HB5.out hb6)
                  have HT6 := Lib.hid (HT5.out.below hb6)
                  have HX6 := Lib.hid (HX5.out.below hb6)
                  clear hb6 HB5 HT5 HX5 ER
                  have x0 := HX6.out.cell 0 _ rfl
                  have x1 := HX6.out.cell 1 _ rfl
                  have t8 : (b0 != b0) = false := by simp
                  have t9 : (c0 != c0) = false := by simp
                  go_wp2_with fail
                  go_roundw
                  case rel => exact ⟨k + 1, by first | rfl | go_num, by omega, r0, b0, c0, HT6, HX6, HO, HB6⟩
                  case measure => simp [intOf]; omega
                · have t5 : decide (b0 < y) = false := decide_eq_false hc
                  go_wp2_with fail
                  have HX1 := Lib.hid (HX0.out.set 0 (.int .i64 (b0 - y)))
                  have HT1 := Lib.hid ((HT0.out).other xb 0 (.int .i64 (b0 - y)) HNE.out)
                  have HB1 := Lib.hid (below_set (HB0.out) xb 0 (.int .i64 (b0 - y)) HWB.out)
                  clear x0 x1 x2 f0 f1 f2 HX0 HT0 HB0
                  generalize (wr).setCell ⟨xb, 0, none⟩ (.int .i64 (b0 - y)) = w3 at HX1 HT1 HB1 ⊢
                  have C := Lib.hid (eat_good g r0 b0 c0 y w3 HT1.out HO0.out (by omega) (by omega))
                  rw [er_0] at C
                  refine C.out.mono ?_; rintro e w4 ⟨rfl, hT4, hg4⟩
                  have HT4 := Lib.hid hT4
                  have HX4 := Lib.hid (HX1.out.more hg4 (fun e => HNE.out (Option.some.inj e).symm))
                  have HB := Lib.hid (gbelow HB1.out (Nat.le_refl _) hg4 HG.out)
                  clear hT4 hg4 HX1 HT1 HB1 C
                  have HO4 := Lib.hid (show Ok r0 (b0 - y) c0 by have := HO0.out; unfold Ok at this ⊢; omega)
                  obtain ⟨b4, hb4⟩ : ∃ b4, (b0 - y) = b4 := ⟨_, rfl⟩
                  obtain ⟨c4, hc4⟩ : ∃ c4, c0 = c4 := ⟨_, rfl⟩
                  obtain ⟨r4, hr4⟩ : ∃ r4, r0 = r4 := ⟨_, rfl⟩
                  have HT : Hid (Pip w4 g r4 b4 c4) := by rw [← hb4, ← hc4, ← hr4]; exact HT4
                  have HX : Hid (Doc w4 xb r4 b4 c4) := by rw [← hb4, ← hc4, ← hr4]; exact HX4
                  have HO : Hid (Ok r4 b4 c4) := by rw [← hb4, ← hc4, ← hr4]; exact HO4
                  clear HT4 HX4 HO4 HO0 hb4 hc4 hr4
                  go_wp2_with fail
                  refine (waits_any g r4 b4 c4 w4 HT.out).mono ?_; rintro e w5 ⟨rfl, m5, rfl⟩
                  have HB5 := Lib.hid (bdrewN HB.out m5)
                  have HT5 := Lib.hid (HT.out.drewN m5)
                  have HX5 := Lib.hid (HX.out.drewN m5)
                  clear HT HX HB
                  generalize w4.drewN m5 = w5 at HT5 HX5 HB5 ⊢
                  have ER := Lib.hid (err_same 0 w5 (HH.out _ HB5.out))
                  rw [er_0] at ER
                  go_wp2_with fail
                  refine ER.out.mono ?_; rintro e w6 ⟨rfl, hb6⟩
                  have HB6 := Lib.hid (bcall HB5.out hb6)
                  have HT6 := Lib.hid (HT5.out.below hb6)
                  have HX6 := Lib.hid (HX5.out.below hb6)
                  clear hb6 HB5 HT5 HX5 ER
                  have x0 := HX6.out.cell 0 _ rfl
                  have x1 := HX6.out.cell 1 _ rfl
                  have t8 : (b4 != b4) = false := by simp
                  have t9 : (c4 != c4) = false := by simp
                  go_wp2_with fail
                  go_roundw
                  case rel => exact ⟨k + 1, by first | rfl | go_num, by omega, r4, b4, c4, HT6, HX6, HO, HB6⟩
                  case measure => simp [intOf]; omega
              · have t4 : (x == 1) = false := by rw [beq_eq_false_iff_ne]; exact hx1
                by_cases hx2 : x = 2
                · have t6 : (x == 2) = true := by rw [beq_iff_eq]; exact hx2
                  clear hx0 hx1 hx2
                  go_wp2_with fail
                  refine IN.out.mono ?_; rintro e wr ⟨rfl, rfl⟩
                  clear IN
                  go_wp2_with fail
                  have HX1 := Lib.hid (HX0.out.set 1 (.int .i64 (c0 + (r0 - b0 - c0))))
                  have HT1 := Lib.hid ((HT0.out).other xb 1 (.int .i64 (c0 + (r0 - b0 - c0))) HNE.out)
                  have HB1 := Lib.hid (below_set (HB0.out) xb 1 (.int .i64 (c0 + (r0 - b0 - c0))) HWB.out)
                  clear x0 x1 x2 f0 f1 f2 HX0 HT0 HB0
                  generalize (wr).setCell ⟨xb, 1, none⟩ (.int .i64 (c0 + (r0 - b0 - c0))) = w3 at HX1 HT1 HB1 ⊢
                  have C := Lib.hid (grant_any g r0 b0 c0 w3 HT1.out HO0.out)
                  refine C.out.mono ?_; rintro e w4 ⟨rfl, hT4, hg4⟩
                  have HT4 := Lib.hid hT4
                  have HX4 := Lib.hid (HX1.out.more hg4 (fun e => HNE.out (Option.some.inj e).symm))
                  have HB := Lib.hid (gbelow HB1.out (Nat.le_refl _) hg4 HG.out)
                  clear hT4 hg4 HX1 HT1 HB1 C
                  have HO4 := Lib.hid (show Ok r0 b0 (r0 - b0) by have := HO0.out; unfold Ok at this ⊢; omega)
                  obtain ⟨b4, hb4⟩ : ∃ b4, b0 = b4 := ⟨_, rfl⟩
                  obtain ⟨c4, hc4⟩ : ∃ c4, (r0 - b0) = c4 := ⟨_, rfl⟩
                  obtain ⟨r4, hr4⟩ : ∃ r4, r0 = r4 := ⟨_, rfl⟩
                  have HT : Hid (Pip w4 g r4 b4 c4) := by rw [← hb4, ← hc4, ← hr4]; exact HT4
                  have HX : Hid (Doc w4 xb r4 b4 c4) := by rw [← hb4, ← hc4, ← hr4, show r0 - b0 = c0 + (r0 - b0 - c0) by omega]; exact HX4
                  have HO : Hid (Ok r4 b4 c4) := by rw [← hb4, ← hc4, ← hr4]; exact HO4
                  clear HT4 HX4 HO4 HO0 hb4 hc4 hr4
                  go_wp2_with fail
                  refine (waits_any g r4 b4 c4 w4 HT.out).mono ?_; rintro e w5 ⟨rfl, m5, rfl⟩
                  have HB5 := Lib.hid (bdrewN HB.out m5)
                  have HT5 := Lib.hid (HT.out.drewN m5)
                  have HX5 := Lib.hid (HX.out.drewN m5)
                  clear HT HX HB
                  generalize w4.drewN m5 = w5 at HT5 HX5 HB5 ⊢
                  have ER := Lib.hid (err_same 0 w5 (HH.out _ HB5.out))
                  rw [er_0] at ER
                  go_wp2_with fail
                  refine ER.out.mono ?_; rintro e w6 ⟨rfl, hb6⟩
                  have HB6 := Lib.hid (bcall HB5.out hb6)
                  have HT6 := Lib.hid (HT5.out.below hb6)
                  have HX6 := Lib.hid (HX5.out.below hb6)
                  clear hb6 HB5 HT5 HX5 ER
                  have x0 := HX6.out.cell 0 _ rfl
                  have x1 := HX6.out.cell 1 _ rfl
                  have t8 : (b4 != b4) = false := by simp
                  have t9 : (c4 != c4) = false := by simp
                  go_wp2_with fail
                  go_roundw
                  case rel => exact ⟨k + 1, by first | rfl | go_num, by omega, r4, b4, c4, HT6, HX6, HO, HB6⟩
                  case measure => simp [intOf]; omega
                · have t6 : (x == 2) = false := by rw [beq_eq_false_iff_ne]; exact hx2
                  clear hx0 hx1 hx2
                  go_wp2_with fail
                  refine IN.out.mono ?_; rintro e wr ⟨rfl, rfl⟩
                  clear IN
                  by_cases hc : y < b0 + c0
                  · have t5 : decide (y < b0 + c0) = true := decide_eq_true hc
                    have CC := Lib.hid (resize_state g r0 b0 c0 y wr HT0.out HO0.out (by omega) (by omega))
                    rw [er_7] at CC
                    go_wp2_with fail
                    refine CC.out.mono ?_; rintro e w4 ⟨rfl, m4, rfl⟩
                    clear CC
                    have HT := Lib.hid (HT0.out.drewN m4)
                    have HX := Lib.hid (HX0.out.drewN m4)
                    have HB := Lib.hid (bdrewN HB0.out m4)
                    clear HT0 HX0 HB0
                    generalize wr.drewN m4 = w4 at HT HX HB ⊢
                    have HO := HO0
                    go_wp2_with fail
                    refine (waits_any g r0 b0 c0 w4 HT.out).mono ?_; rintro e w5 ⟨rfl, m5, rfl⟩
                    have HB5 := Lib.hid (bdrewN HB.out m5)
                    have HT5 := Lib.hid (HT.out.drewN m5)
                    have HX5 := Lib.hid (HX.out.drewN m5)
                    clear HT HX HB
                    generalize w4.drewN m5 = w5 at HT5 HX5 HB5 ⊢
                    have ER := Lib.hid (err_same 7 w5 (HH.out _ HB5.out))
                    rw [er_7] at ER
                    go_wp2_with fail
                    refine ER.out.mono ?_; rintro e w6 ⟨rfl, hb6⟩
                    have HB6 := Lib.hid (bcall HB5.out hb6)
                    have HT6 := Lib.hid (HT5.out.below hb6)
                    have HX6 := Lib.hid (HX5.out.below hb6)
                    clear hb6 HB5 HT5 HX5 ER
                    have x0 := HX6.out.cell 0 _ rfl
                    have x1 := HX6.out.cell 1 _ rfl
                    have t8 : (b0 != b0) = false := by simp
                    have t9 : (c0 != c0) = false := by simp
                    go_wp2_with fail
                    go_roundw
                    case rel => exact ⟨k + 1, by first | rfl | go_num, by omega, r0, b0, c0, HT6, HX6, HO, HB6⟩
                    case measure => simp [intOf]; omega
                  · have t5 : decide (y < b0 + c0) = false := decide_eq_false hc
                    go_wp2_with fail
                    have HX1 := Lib.hid (HX0.out.set 2 (.int .i64 (y)))
                    have HT1 := Lib.hid ((HT0.out).other xb 2 (.int .i64 (y)) HNE.out)
                    have HB1 := Lib.hid (below_set (HB0.out) xb 2 (.int .i64 (y)) HWB.out)
                    clear x0 x1 x2 f0 f1 f2 HX0 HT0 HB0
                    generalize (wr).setCell ⟨xb, 2, none⟩ (.int .i64 (y)) = w3 at HX1 HT1 HB1 ⊢
                    have C := Lib.hid (resize_good g r0 b0 c0 y w3 HT1.out HO0.out (by omega) (by omega))
                    rw [er_0] at C
                    refine C.out.mono ?_; rintro e w4 ⟨rfl, hT4, hg4⟩
                    have HT4 := Lib.hid hT4
                    have HX4 := Lib.hid (HX1.out.more hg4 (fun e => HNE.out (Option.some.inj e).symm))
                    have HB := Lib.hid (gbelow HB1.out (Nat.le_refl _) hg4 HG.out)
                    clear hT4 hg4 HX1 HT1 HB1 C
                    have HO4 := Lib.hid (show Ok y b0 c0 by have := HO0.out; unfold Ok at this ⊢; omega)
                    obtain ⟨b4, hb4⟩ : ∃ b4, b0 = b4 := ⟨_, rfl⟩
                    obtain ⟨c4, hc4⟩ : ∃ c4, c0 = c4 := ⟨_, rfl⟩
                    obtain ⟨r4, hr4⟩ : ∃ r4, y = r4 := ⟨_, rfl⟩
                    have HT : Hid (Pip w4 g r4 b4 c4) := by rw [← hb4, ← hc4, ← hr4]; exact HT4
                    have HX : Hid (Doc w4 xb r4 b4 c4) := by rw [← hb4, ← hc4, ← hr4]; exact HX4
                    have HO : Hid (Ok r4 b4 c4) := by rw [← hb4, ← hc4, ← hr4]; exact HO4
                    clear HT4 HX4 HO4 HO0 hb4 hc4 hr4
                    go_wp2_with fail
                    refine (waits_any g r4 b4 c4 w4 HT.out).mono ?_; rintro e w5 ⟨rfl, m5, rfl⟩
                    have HB5 := Lib.hid (bdrewN HB.out m5)
                    have HT5 := Lib.hid (HT.out.drewN m5)
                    have HX5 := Lib.hid (HX.out.drewN m5)
                    clear HT HX HB
                    generalize w4.drewN m5 = w5 at HT5 HX5 HB5 ⊢
                    have ER := Lib.hid (err_same 0 w5 (HH.out _ HB5.out))
                    rw [er_0] at ER
                    go_wp2_with fail
                    refine ER.out.mono ?_; rintro e w6 ⟨rfl, hb6⟩
                    have HB6 := Lib.hid (bcall HB5.out hb6)
                    have HT6 := Lib.hid (HT5.out.below hb6)
                    have HX6 := Lib.hid (HX5.out.below hb6)
                    clear hb6 HB5 HT5 HX5 ER
                    have x0 := HX6.out.cell 0 _ rfl
                    have x1 := HX6.out.cell 1 _ rfl
                    have t8 : (b4 != b4) = false := by simp
                    have t9 : (c4 != c4) = false := by simp
                    go_wp2_with fail
                    go_roundw
                    case rel => exact ⟨k + 1, by first | rfl | go_num, by omega, r4, b4, c4, HT6, HX6, HO, HB6⟩
                    case measure => simp [intOf]; omega
          · have IN := Lib.hid (Go.Proofs.YtmenijpllddjnaaDoor.Rtt.in_any y 0 100 wr false (in_false hyr))
            have x0 := HX0.out.cell 0 _ rfl
            have x1 := HX0.out.cell 1 _ rfl
            have x2 := HX0.out.cell 2 _ rfl
            have f0 := HX0.out.fz 0
            have f1 := HX0.out.fz 1
            have f2 := HX0.out.fz 2
            by_cases hx0 : x = 0
            · have t3 : (x == 0) = true := by rw [beq_iff_eq]; exact hx0
              clear hx0
              go_wp2_with fail
              refine IN.out.mono ?_; rintro e wr ⟨rfl, rfl⟩
              clear IN
              have CC := Lib.hid (send_bad g y wr hyr)
              rw [er_1] at CC
              go_wp2_with fail
              refine CC.out.mono ?_; rintro e w4 ⟨rfl, rfl⟩
              clear CC
              have HT := HT0
              have HX := HX0
              have HB := HB0
              have HO := HO0
              go_wp2_with fail
              refine (waits_any g r0 b0 c0 w4 HT.out).mono ?_; rintro e w5 ⟨rfl, m5, rfl⟩
              have HB5 := Lib.hid (bdrewN HB.out m5)
              have HT5 := Lib.hid (HT.out.drewN m5)
              have HX5 := Lib.hid (HX.out.drewN m5)
              clear HT HX HB
              generalize w4.drewN m5 = w5 at HT5 HX5 HB5 ⊢
              have ER := Lib.hid (err_same 1 w5 (HH.out _ HB5.out))
              rw [er_1] at ER
              go_wp2_with fail
              refine ER.out.mono ?_; rintro e w6 ⟨rfl, hb6⟩
              have HB6 := Lib.hid (bcall HB5.out hb6)
              have HT6 := Lib.hid (HT5.out.below hb6)
              have HX6 := Lib.hid (HX5.out.below hb6)
              clear hb6 HB5 HT5 HX5 ER
              have x0 := HX6.out.cell 0 _ rfl
              have x1 := HX6.out.cell 1 _ rfl
              have t8 : (b0 != b0) = false := by simp
              have t9 : (c0 != c0) = false := by simp
              go_wp2_with fail
              go_roundw
              case rel => exact ⟨k + 1, by first | rfl | go_num, by omega, r0, b0, c0, HT6, HX6, HO, HB6⟩
              case measure => simp [intOf]; omega
            · have t3 : (x == 0) = false := by rw [beq_eq_false_iff_ne]; exact hx0
              by_cases hx1 : x = 1
              · have t4 : (x == 1) = true := by rw [beq_iff_eq]; exact hx1
                clear hx0 hx1
                go_wp2_with fail
                refine IN.out.mono ?_; rintro e wr ⟨rfl, rfl⟩
                clear IN
                have CC := Lib.hid (eat_bad g y wr hyr)
                rw [er_1] at CC
                go_wp2_with fail
                refine CC.out.mono ?_; rintro e w4 ⟨rfl, rfl⟩
                clear CC
                have HT := HT0
                have HX := HX0
                have HB := HB0
                have HO := HO0
                go_wp2_with fail
                refine (waits_any g r0 b0 c0 w4 HT.out).mono ?_; rintro e w5 ⟨rfl, m5, rfl⟩
                have HB5 := Lib.hid (bdrewN HB.out m5)
                have HT5 := Lib.hid (HT.out.drewN m5)
                have HX5 := Lib.hid (HX.out.drewN m5)
                clear HT HX HB
                generalize w4.drewN m5 = w5 at HT5 HX5 HB5 ⊢
                have ER := Lib.hid (err_same 1 w5 (HH.out _ HB5.out))
                rw [er_1] at ER
                go_wp2_with fail
                refine ER.out.mono ?_; rintro e w6 ⟨rfl, hb6⟩
                have HB6 := Lib.hid (bcall HB5.out hb6)
                have HT6 := Lib.hid (HT5.out.below hb6)
                have HX6 := Lib.hid (HX5.out.below hb6)
                clear hb6 HB5 HT5 HX5 ER
                have x0 := HX6.out.cell 0 _ rfl
                have x1 := HX6.out.cell 1 _ rfl
                have t8 : (b0 != b0) = false := by simp
                have t9 : (c0 != c0) = false := by simp
                go_wp2_with fail
                go_roundw
                case rel => exact ⟨k + 1, by first | rfl | go_num, by omega, r0, b0, c0, HT6, HX6, HO, HB6⟩
                case measure => simp [intOf]; omega
              · have t4 : (x == 1) = false := by rw [beq_eq_false_iff_ne]; exact hx1
                by_cases hx2 : x = 2
                · have t6 : (x == 2) = true := by rw [beq_iff_eq]; exact hx2
                  clear hx0 hx1 hx2
                  go_wp2_with fail
                  refine IN.out.mono ?_; rintro e wr ⟨rfl, rfl⟩
                  clear IN
                  go_wp2_with fail
                  have HX1 := Lib.hid (HX0.out.set 1 (.int .i64 (c0 + (r0 - b0 - c0))))
                  have HT1 := Lib.hid ((HT0.out).other xb 1 (.int .i64 (c0 + (r0 - b0 - c0))) HNE.out)
                  have HB1 := Lib.hid (below_set (HB0.out) xb 1 (.int .i64 (c0 + (r0 - b0 - c0))) HWB.out)
                  clear x0 x1 x2 f0 f1 f2 HX0 HT0 HB0
                  generalize (wr).setCell ⟨xb, 1, none⟩ (.int .i64 (c0 + (r0 - b0 - c0))) = w3 at HX1 HT1 HB1 ⊢
                  have C := Lib.hid (grant_any g r0 b0 c0 w3 HT1.out HO0.out)
                  refine C.out.mono ?_; rintro e w4 ⟨rfl, hT4, hg4⟩
                  have HT4 := Lib.hid hT4
                  have HX4 := Lib.hid (HX1.out.more hg4 (fun e => HNE.out (Option.some.inj e).symm))
                  have HB := Lib.hid (gbelow HB1.out (Nat.le_refl _) hg4 HG.out)
                  clear hT4 hg4 HX1 HT1 HB1 C
                  have HO4 := Lib.hid (show Ok r0 b0 (r0 - b0) by have := HO0.out; unfold Ok at this ⊢; omega)
                  obtain ⟨b4, hb4⟩ : ∃ b4, b0 = b4 := ⟨_, rfl⟩
                  obtain ⟨c4, hc4⟩ : ∃ c4, (r0 - b0) = c4 := ⟨_, rfl⟩
                  obtain ⟨r4, hr4⟩ : ∃ r4, r0 = r4 := ⟨_, rfl⟩
                  have HT : Hid (Pip w4 g r4 b4 c4) := by rw [← hb4, ← hc4, ← hr4]; exact HT4
                  have HX : Hid (Doc w4 xb r4 b4 c4) := by rw [← hb4, ← hc4, ← hr4, show r0 - b0 = c0 + (r0 - b0 - c0) by omega]; exact HX4
                  have HO : Hid (Ok r4 b4 c4) := by rw [← hb4, ← hc4, ← hr4]; exact HO4
                  clear HT4 HX4 HO4 HO0 hb4 hc4 hr4
                  go_wp2_with fail
                  refine (waits_any g r4 b4 c4 w4 HT.out).mono ?_; rintro e w5 ⟨rfl, m5, rfl⟩
                  have HB5 := Lib.hid (bdrewN HB.out m5)
                  have HT5 := Lib.hid (HT.out.drewN m5)
                  have HX5 := Lib.hid (HX.out.drewN m5)
                  clear HT HX HB
                  generalize w4.drewN m5 = w5 at HT5 HX5 HB5 ⊢
                  have ER := Lib.hid (err_same 0 w5 (HH.out _ HB5.out))
                  rw [er_0] at ER
                  go_wp2_with fail
                  refine ER.out.mono ?_; rintro e w6 ⟨rfl, hb6⟩
                  have HB6 := Lib.hid (bcall HB5.out hb6)
                  have HT6 := Lib.hid (HT5.out.below hb6)
                  have HX6 := Lib.hid (HX5.out.below hb6)
                  clear hb6 HB5 HT5 HX5 ER
                  have x0 := HX6.out.cell 0 _ rfl
                  have x1 := HX6.out.cell 1 _ rfl
                  have t8 : (b4 != b4) = false := by simp
                  have t9 : (c4 != c4) = false := by simp
                  go_wp2_with fail
                  go_roundw
                  case rel => exact ⟨k + 1, by first | rfl | go_num, by omega, r4, b4, c4, HT6, HX6, HO, HB6⟩
                  case measure => simp [intOf]; omega
                · have t6 : (x == 2) = false := by rw [beq_eq_false_iff_ne]; exact hx2
                  clear hx0 hx1 hx2
                  go_wp2_with fail
                  refine IN.out.mono ?_; rintro e wr ⟨rfl, rfl⟩
                  clear IN
                  have CC := Lib.hid (resize_bad g y wr hyr)
                  rw [er_1] at CC
                  go_wp2_with fail
                  refine CC.out.mono ?_; rintro e w4 ⟨rfl, rfl⟩
                  clear CC
                  have HT := HT0
                  have HX := HX0
                  have HB := HB0
                  have HO := HO0
                  go_wp2_with fail
                  refine (waits_any g r0 b0 c0 w4 HT.out).mono ?_; rintro e w5 ⟨rfl, m5, rfl⟩
                  have HB5 := Lib.hid (bdrewN HB.out m5)
                  have HT5 := Lib.hid (HT.out.drewN m5)
                  have HX5 := Lib.hid (HX.out.drewN m5)
                  clear HT HX HB
                  generalize w4.drewN m5 = w5 at HT5 HX5 HB5 ⊢
                  have ER := Lib.hid (err_same 1 w5 (HH.out _ HB5.out))
                  rw [er_1] at ER
                  go_wp2_with fail
                  refine ER.out.mono ?_; rintro e w6 ⟨rfl, hb6⟩
                  have HB6 := Lib.hid (bcall HB5.out hb6)
                  have HT6 := Lib.hid (HT5.out.below hb6)
                  have HX6 := Lib.hid (HX5.out.below hb6)
                  clear hb6 HB5 HT5 HX5 ER
                  have x0 := HX6.out.cell 0 _ rfl
                  have x1 := HX6.out.cell 1 _ rfl
                  have t8 : (b0 != b0) = false := by simp
                  have t9 : (c0 != c0) = false := by simp
                  go_wp2_with fail
                  go_roundw
                  case rel => exact ⟨k + 1, by first | rfl | go_num, by omega, r0, b0, c0, HT6, HX6, HO, HB6⟩
                  case measure => simp [intOf]; omega
        · have hrl : row.length ≤ 9223372036854775807 := by have h4 := hI.1; have h5 := hI.2.1; unfold maxLen at h5; omega
          obtain ⟨m, hm⟩ : ∃ m, row.length = m := ⟨_, rfl⟩
          rw [hm] at hq' h2 hrl
          have t3 : ((m : Int) != 2) = true := by rw [bne_iff_ne]; omega
          clear hm hI
          go_wp2_with fail
          go_roundw
          case rel => exact ⟨k + 1, by first | rfl | go_num, by omega, r0, b0, c0, HT0, HX0, HO0, HB0⟩
          case measure => simp [intOf]; omega
      · have t2 : decide ((k : Int) < 60) = false := decide_eq_false (by omega)
        go_wp2_with fail
        go_ret
        exact ⟨rfl, HB0.out⟩
    · have t1 : decide ((k : Int) < (n : Int)) = false := decide_eq_false (by omega)
      go_wp2_with fail
      go_ret
      exact ⟨rfl, HB0.out⟩

theorem reads : Tryd.f4.params.toList.all (fun t => Tryd.prog.readableRec t && decide (t < Tryd.prog.types.size)) = true := by kernel_rfl
theorem et : Tryd.prog.globalNamed "errors.errorType" = some 0 := by kernel_rfl
theorem rt : (Tryd.prog.cutTypes.find? (·.1 == "internal/reflectlite.rtype")).map (·.2) = some 59 := by kernel_rfl
theorem oneRow : ((List.range Tryd.prog.types.size).filter fun t => Tryd.prog.rowNamed t [101, 114, 114, 111, 114]) = [26] := by kernel_rfl

theorem handle_of_laid {W : World} (h : laidMetH Tryd.prog Rows.windowPlaysRow.laid W) : Handle W := by
  have h' : laidMet Tryd.prog [] W ∧ handlesMet Tryd.prog Rows.windowPlaysRow.laid W := h
  obtain ⟨name, u, ty, e1, e2, e3, e4, e5⟩ := h'.2 _ (List.mem_singleton.2 rfl)
  have en : name = [101, 114, 114, 111, 114] := (Option.some.inj e1).symm
  subst en
  obtain rfl := Option.some.inj (rt.symm.trans e2)
  have hm : ty ∈ (List.range Tryd.prog.types.size).filter fun t => Tryd.prog.rowNamed t [101, 114, 114, 111, 114] := List.mem_filter.2 ⟨List.mem_range.2 e3, e4⟩
  rw [oneRow] at hm
  obtain rfl := List.mem_singleton.1 hm
  have hh : typeHandle Tryd.prog 26 = .pointer (some ⟨1, 26, none⟩) := by kernel_rfl
  rw [hh] at e5
  have e6 := World.var?_cell et e5 0
  unfold Handle
  simpa using e6

noncomputable def laidWorld (os : Os) : World :=
  { World.holding Tryd.prog os ⟨#[], #[], []⟩ with heap := (World.holding Tryd.prog os ⟨#[], #[], []⟩).heap.modify 0 fun
      | .cells _ t frozen => .cells #[.iface 59 (.agg #[.pointer (some ⟨1, 26, none⟩)])] t frozen
      | o => o }
theorem laid_met (os : Os) : laidMetH Tryd.prog Rows.windowPlaysRow.laid ((laidWorld os).forCall (fun _ _ => 0) ⟨#[], #[.int .i64 0, .slice none 0 0], []⟩).memory :=
  laidMetH_of_parts (laidMet_nil _ _) (by kernel_rfl)
theorem reads_wit (os : Os) {H : Type} (enc : TypeId × Value → H) : ∃ places, DataW.whole enc Tryd.prog ((laidWorld os).forCall (fun _ _ => 0) ⟨#[], #[.int .i64 0, .slice none 0 0], []⟩).memory Tryd.f4.params.toList Rows.windowPlaysSpec.vars false (#[.int .i64 0, .slice none 0 0] : Array Value).toList 8 = some ([.lit (.int .i64 0), .nil], [], places) :=
  ⟨[], by kernel_rfl⟩

theorem contract (H : Type) (enc : TypeId × Value → H) (W : World) (base : Nat) (args : Array Value) (ds gs : List (DataW H)) (before : List MemPlace)
    (hval : ∀ (j : Nat) t v, Tryd.f4.params[j]? = some t → args[j]? = some v → Value.okWide Tryd.prog W .any base t v)
    (hW : DataW.Whole enc Tryd.prog Tryd.f4.params.toList Rows.windowPlaysSpec.vars false W args.toList ds gs before) (hL : laidMetH Tryd.prog Rows.windowPlaysRow.laid W) :
    Calls Tryd.prog 4 args W fun e W' => ∃ v, e = .returned v ∧ Rows.windowPlaysSpec.post enc Tryd.prog Tryd.f4 false true false false W args v W' := by
  have hW' := hW
  have hg := handle_of_laid hL
  obtain ⟨p, q, hA0, hV, rfl, hfz, hnd⟩ := hW
  have hA : DataW.TrodAll enc Tryd.prog W 0 (fun _ => true) true Tryd.f4.params.toList args.toList ds p := hA0
  have hlt := hA.lt
  rw [Tryd.params4] at hA hval
  obtain ⟨v0, vs0, d0, ds0, p0, q0, hargs, rfl, rfl, h0, r0⟩ := trodAll_cons hA
  obtain ⟨v1, vs1, d1, ds1, p1, q1, hvs1, rfl, rfl, h1, r1⟩ := trodAll_cons r0
  obtain ⟨hvsn, rfl, rfl⟩ := trodAll_nil r1
  simp only [hvsn, hvs1] at hargs
  obtain rfl : args = #[v0, v1] := by cases args; simp_all
  obtain ⟨a0, rfl, rfl, rfl, w0⟩ := open_int Tryd.underlying3 (hval 0 3 v0 rfl rfl) h0
  have b0 := bounds_int w0
  obtain ⟨p1a, cap1, l1, rfl, i1, e1⟩ := open_rows Tryd.underlying22 Tryd.underlying30 Tryd.underlying3 (by kernel_rfl) (by kernel_rfl) (hval 1 22 v1 rfl rfl) h1 (fun x hx => hlt x (by simp [hx]))
  obtain ⟨rfl, rfl⟩ := trodVars_none hV
  clear hA0
  exact law_post 4 laid reads rfl Tryd.underlying4 rfl hW' ⟨rfl, rfl, rfl⟩ (by
    by_cases h : 0 ≤ a0 ∧ a0 ≤ 100
    · exact law_good a0 _ _ _ l1 W hg h rfl i1
    · exact law_bad a0 _ _ _ W hg h)

set_option maxRecDepth 100000 in
theorem lifted (os : Os) (started : os.Started) (H : Type) (enc : TypeId × Value → H) (F : Stop.Interp) :
    ReturnsInHanded {} Tryd.checked os 4 .any ((OpenSpec.ofChange Rows.windowPlaysSpec).preRow enc Tryd.prog Tryd.f4 Rows.windowPlaysRow.domain false Rows.windowPlaysRow.laid) (((OpenSpec.ofChange Rows.windowPlaysSpec).at F).post enc Tryd.prog Tryd.f4 false true false false) := by
  obtain ⟨places, hx⟩ := reads_wit os enc
  refine returnsInHanded_of_row (C := Tryd.checked) (s := (OpenSpec.ofChange Rows.windowPlaysSpec)) own started (by kernel_rfl) Tryd.func4
    (witness_row_at (enc := enc) (C := Tryd.checked) false (laidWorld os) #[.int .i64 0, .slice none 0 0] rfl (by kernel_rfl) (by kernel_rfl) (by kernel_rfl)
      (OpenSpec.preRow_of_cond 8 hx (by kernel_rfl) (fun k hk => by cases hk) (by kernel_rfl) (laid_met os))) ?_
  intro W base args ds gs before hval hW _ hcond _ hL _ _
  exact contract H enc W base args ds gs before hval hW hL

theorem said : Rows.WindowPlaysSaid :=
  OpenClaim.holds_of_cond 4 Tryd.f4 rfl rfl rfl rfl rfl rfl rfl ⟨rfl, rfl, rfl, rfl, rfl⟩ rfl rfl rfl rfl rfl (by kernel_rfl) Tryd.func4 (by kernel_rfl)
    (of_decide_eq_true (by kernel_rfl)) (by unfold Func.isWrapper; first | (rw [if_pos (by decide +kernel)]; kernel_rfl) | (rw [if_neg (by decide +kernel)]; exact ⟨rfl, rfl⟩))
    (fun os started H enc _ F => by rw [OpenClaim.pre_eq_preRow]; exact lifted os started H enc F)

theorem plain (f : FuncId) (fn : Func) (hf : Tryd.pinned.checked.prog.funcNamed Rows.windowPlaysRow.func = some f) (hfn : Tryd.pinned.checked.prog.funcs[f]? = some fn) :
    true = Tryd.pinned.checked.prog.looks [] ∧ ∀ (j : Nat) t, fn.params[j]? = some t → Tryd.pinned.checked.prog.wantsStandIn t = false := by
  obtain rfl : f = 4 := Option.some.inj ((show Tryd.prog.funcNamed Rows.windowPlaysRow.func = some 4 by kernel_rfl).symm.trans hf) |>.symm
  obtain rfl : fn = Tryd.f4 := (Option.some.inj (Tryd.func4.symm.trans hfn)).symm
  refine ⟨by kernel_rfl, fun j t ht => ?_⟩
  have hall : Tryd.f4.params.toList.all (fun t => !Tryd.prog.wantsStandIn t) = true := by kernel_rfl
  have hm : t ∈ Tryd.f4.params.toList := by simpa using Array.mem_of_getElem? ht
  have := List.all_eq_true.1 hall t hm
  show Tryd.prog.wantsStandIn t = false
  simpa using this

theorem proved : Rows.WindowPlaysCardSaid :=
  Claim7.holds_tied_plain_at .later [] _ _ _ _ said (fun _ h => by cases h) (by kernel_rfl) (fun _ h => by cases h) windowPlays_row_tie rfl ⟨rfl, rfl⟩ (by kernel_rfl) rfl plain (by kernel_rfl)
end Go.Proofs.YtmenijpllddjnaaDoor.WindowPlaysL
