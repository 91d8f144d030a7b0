/- BucketPlays: for any sequence of requests, results and token counts are as specified: for every input, the row's handle laid as the card says. -/
import Derived.Test.YtegbnldgbfbaaaaDoorCards
import Derived.Test.YtegbnldgbfbaaaaDoorTie
import Derived.Deep.DeepHandedRow
import Derived.Lib.LaidTab
import Derived.LaidHandle
import Derived.SevenTiedAt
import Derived.Test.YtegbnldgbfbaaaaDoorBucket1
import Derived.Test.YtegbnldgbfbaaaaDoorBucketRef
import Derived.Test.YtegbnldgbfbaaaaDoorRttIn
import Derived.Test.YtegbnldgbfbaaaaDoorRows0
import Derived.Test.YtegbnldgbfbaaaaDoorErrSame
import Derived.Deep.RegionHeld3
namespace Go.Proofs.YtegbnldgbfbaaaaDoor.BucketPlaysL
open Go.ChangeShapes Go.WideShapes Go.ChangeAt Go.RowKit Go.Proofs.YtegbnldgbfbaaaaDoor.Kit Go.Proofs.YtegbnldgbfbaaaaDoor.App Go.Proofs.YtegbnldgbfbaaaaDoor.Err Go.Proofs.YtegbnldgbfbaaaaDoor.Bucket Go.Proofs.YtegbnldgbfbaaaaDoor.As
set_option linter.unusedVariables false
set_option maxRecDepth 20000

abbrev Law (r d : Int) (p : Option Addr) (m cap : Nat) (w : World) : Prop := Calls Tryd.prog 3 #[.int .i64 r, .int .i64 d, .slice p m cap] w fun e w' => e = .returned (.bool true) ∧ Below w.heap.size w w'
theorem law_bad (r d : Int) (p : Option Addr) (m cap : Nat) (w : World) (hg : Handle w) (h : ¬ ((0 ≤ r ∧ r ≤ 20) ∧ (0 ≤ d ∧ d ≤ 100))) : Law r d p m cap w := by
  have NB := Lib.hid (new_bad r d w h)
  have ER := Lib.hid (err_same 1 w hg)
  rw [er_1] at NB ER
  clear hg
  unfold Law
  by_cases h1 : 0 ≤ r ∧ r ≤ 20
  · have IN := Lib.hid (Go.Proofs.YtegbnldgbfbaaaaDoor.Rtt.in_any r 0 20 w true (in_true h1))
    have IN2 := Lib.hid (Go.Proofs.YtegbnldgbfbaaaaDoor.Rtt.in_any d 0 100 w false (in_false (fun h2 => h ⟨h1, h2⟩)))
    clear h h1
    go_enter Tryd.func3, Tryd.ntmps3
    go_wp2_with fail
    refine NB.out.mono ?_; rintro e w1 ⟨rfl, rfl⟩
    go_wp2_with fail
    refine IN.out.mono ?_; rintro e w2 ⟨rfl, rfl⟩
    go_wp2_with fail
    refine IN2.out.mono ?_; rintro e w2 ⟨rfl, rfl⟩
    go_wp2_with fail
    refine ER.out.mono ?_; rintro e w3 ⟨rfl, hb3⟩
    go_wp2_with fail
    go_ret
    exact ⟨rfl, hb3⟩
  · have IN := Lib.hid (Go.Proofs.YtegbnldgbfbaaaaDoor.Rtt.in_any r 0 20 w false (in_false h1))
    clear h h1
    go_enter Tryd.func3, Tryd.ntmps3
    go_wp2_with fail
    refine NB.out.mono ?_; rintro e w1 ⟨rfl, rfl⟩
    go_wp2_with fail
    refine IN.out.mono ?_; rintro e w2 ⟨rfl, rfl⟩
    go_wp2_with fail
    refine ER.out.mono ?_; rintro e w3 ⟨rfl, hb3⟩
    go_wp2_with fail
    go_ret
    exact ⟨rfl, hb3⟩
theorem ok_new {r d : Int} (h : (0 ≤ r ∧ r ≤ 20) ∧ (0 ≤ d ∧ d ≤ 100)) : Ok r d d 0 := by unfold Ok; omega
set_option maxHeartbeats 8000000 in
theorem law_good (r d : Int) (p0 : Option Addr) (n cap : Nat) (ls : List (List Int)) (w : World) (hH : Handle w) (h0 : (0 ≤ r ∧ r ≤ 20) ∧ (0 ≤ d ∧ d ≤ 100)) (hn : n = ls.length) (hR : RowsI w p0 cap ls) : Law r d p0 n cap w := by
  have NG := Lib.hid (new_good r d w h0)
  have IN01 := Lib.hid (fun W => Go.Proofs.YtegbnldgbfbaaaaDoor.Rtt.in_any r 0 20 W true (in_true h0.1))
  have IN02 := Lib.hid (fun W => Go.Proofs.YtegbnldgbfbaaaaDoor.Rtt.in_any d 0 100 W true (in_true h0.2))
  have HO2 := Lib.hid (ok_new h0)
  have HH := Lib.hid (fun W (hb : Below w.heap.size w W) => hH.below hb)
  have HR := Lib.hid hR
  have hcap := hR.len_le
  rw [← hn] at hcap
  have HN := Lib.hid hn
  obtain ⟨⟨r1, r2⟩, d1, d2⟩ := h0
  clear hn hR hH
  unfold Law
  go_enter Tryd.func3, Tryd.ntmps3
  go_wp2_with fail
  refine NG.out.mono ?_; rintro e w1 ⟨rfl, hT1, hb1⟩
  have HT1 := Lib.hid hT1
  have hgl := hT1.lt
  clear NG hT1
  obtain ⟨g, hg⟩ : ∃ g, w.heap.size = g := ⟨_, rfl⟩
  have HG := Lib.hid (Nat.le_of_eq hg)
  rw [hg] at HT1 hgl
  rw [hg] at ⊢
  clear hg
  go_wp2_with fail
  refine (IN01.out _).mono ?_; rintro e w1 ⟨rfl, rfl⟩
  go_wp2_with fail
  refine (IN02.out _).mono ?_; rintro e w1 ⟨rfl, rfl⟩
  go_wp2_with fail
  obtain ⟨xb, hxb⟩ : ∃ b, w1.heap.size = b := ⟨_, rfl⟩
  have HX1 : Hid (Doc _ _ r d d 0) := Lib.hid (Blk.new w1 31 [.int .i64 r, .int .i64 d, .int .i64 d, .int .i64 0])
  rw [hxb] at HX1 hgl ⊢
  have HT2 := Lib.hid (HT1.out.alloc (.cells #[.int .i64 r, .int .i64 d, .int .i64 d, .int .i64 0] 31))
  have HB2 := Lib.hid (balloc hb1 (.cells #[.int .i64 r, .int .i64 d, .int .i64 d, .int .i64 0] 31))
  have HNE := Lib.hid (Nat.ne_of_lt hgl)
  have HWB := Lib.hid (Nat.le_trans hb1.size (Nat.le_of_eq hxb))
  clear hxb HT1 hb1 IN01 IN02
  generalize w1.alloc (.cells #[.int .i64 r, .int .i64 d, .int .i64 d, .int .i64 0] 31) = w2 at HX1 HT2 HB2 ⊢
  go_loopw [10] (fun iv wr => ∃ k : Nat, iv = .int .i64 (k : Int) ∧ k ≤ n ∧ ∃ h t, Hid (Bkt wr g r d h t) ∧ Hid (Doc wr xb r d h t) ∧ Hid (Ok r d h t) ∧ Hid (Below w.heap.size w wr)) (fun i _ => n - (intOf i).toNat)
  case atStart => exact ⟨0, rfl, Nat.zero_le _, d, 0, HT2, HX1, HO2, HB2⟩
  case round =>
    obtain ⟨k, rfl, hk, h, t, HT, HX, HO, HB⟩ := hrel
    clear HT2 HX1 HO2 HB2
    by_cases hkn : k < n
    · have t1 : decide ((k : Int) < (n : Int)) = true := decide_eq_true (by omega)
      by_cases hk60 : k < 60
      · have t2 : decide ((k : Int) < 60) = true := decide_eq_true (by omega)
        obtain ⟨d0, off0, rfl, hd0, hrow⟩ := HR.out.2.2 (by have := HN.out; omega)
        obtain ⟨qr, cr, hq, hI⟩ := hrow k (by have := HN.out; omega)
        generalize ls[k]?.getD [] = row at hq hI
        clear hrow
        have hq' := (HB.out.cell (p := ⟨d0, off0 + k, none⟩) hd0).trans hq
        by_cases h2 : row.length = 2
        · rw [h2] at hq'
          obtain ⟨bb, off, rfl, hbb, hcs⟩ := hI.2.2.2 (by omega)
          have c0 := hcs 0 (by omega)
          have c1 := hcs 1 (by omega)
          generalize row[0]?.getD 0 = x at c0
          generalize row[1]?.getD 0 = y at c1
          have K := Lib.hid (fun W (hW : Below w.heap.size w W) => (⟨(hW.cell (p := ⟨bb, off, none⟩) hbb).trans c0, (hW.cell (p := ⟨bb, off + 1, none⟩) hbb).trans c1⟩ : W.cell? ⟨bb, off, none⟩ = some (.int .i64 x) ∧ W.cell? ⟨bb, off + 1, none⟩ = some (.int .i64 y)))
          clear hcs hI hbb h2 hq hd0 c0 c1 row
          obtain ⟨kx, ky⟩ := K.out wr HB.out
          obtain ⟨cx0, _, _, cx3, _, _⟩ := HX.out.cells
          by_cases h1 : 0 ≤ x ∧ x ≤ 1000
          · by_cases h2 : 0 ≤ y ∧ y ≤ 100
            · by_cases h3 : x < t
              · have IN1 := Lib.hid (fun W => Go.Proofs.YtegbnldgbfbaaaaDoor.Rtt.in_any x 0 1000 W true (in_true h1))
                have IN2 := Lib.hid (fun W => Go.Proofs.YtegbnldgbfbaaaaDoor.Rtt.in_any y 0 100 W true (in_true h2))
                have t5 : decide (x < t) = true := decide_eq_true h3
                have HO4 := HO
                go_wp2_with fail
                refine (IN1.out _).mono ?_; rintro e wr ⟨rfl, rfl⟩
                go_wp2_with fail
                refine (IN2.out _).mono ?_; rintro e wr ⟨rfl, rfl⟩
                go_wp2_with fail
                go_quiet (fail)
                have HT3 := Lib.hid (HT.out.drewN nq)
                have HX3 : Hid (Doc (wr.drewN nq) xb r d h t) := Lib.hid (Blk.drewN HX.out nq)
                have HB3 := Lib.hid (bdrewN HB.out nq)
                clear HT HX HB cx0 cx3 kx ky
                generalize wr.drewN nq = w3 at HT3 HX3 HB3 ⊢
                have C := Lib.hid (take_state g r d h t x y w3.drew HT3.out ⟨h1, h2⟩ h3)
                rw [er_7] at C
                clear h1 h2 h3
                obtain ⟨HT, HX, HB⟩ : Hid (Bkt w3 g r d h t) ∧ Hid (Doc w3 xb r d h t) ∧ Hid (Below w.heap.size w w3) := ⟨HT3, HX3, HB3⟩
                clear HT3 HX3 HB3
                have HTd := Lib.hid (HT.out.drewN 1)
                have HXd : Hid (Doc (w3.drewN 1) xb r d h t) := Lib.hid (Blk.drewN HX.out 1)
                have HBd := Lib.hid (bdrewN HB.out 1)
                change Hid (Bkt w3.drew g r d h t) at HTd
                change Hid (Doc w3.drew xb r d h t) at HXd
                change Hid (Below w.heap.size w w3.drew) at HBd
                obtain ⟨kx, ky⟩ := K.out w3 HB.out
                clear HT HX HB
                go_wp2_with fail
                go_region_held3 (fun W' => W'.cell? ⟨bb, off, none⟩ = some (.int .i64 x) ∧ W'.cell? ⟨bb, off + 1, none⟩ = some (.int .i64 y))
                  (first
                    | exact K.out _ HBd.out
                    | exact K.out _ HB8.out
                    | go_keep)
                  (first
                    | (go_at_call 8; refine C.out.mono ?_; rintro e w8 ⟨rfl, rfl⟩
                       have HT8 := HTd
                       have HX8 := HXd
                       have HB8 := HBd))
                clear C HTd HXd HBd kx ky
                generalize w3.drew = w8 at HT8 HX8 HB8 ⊢
                have HA := Lib.hid (has_any g r d h t w8 HT8.out)
                go_wp2_with fail
                refine HA.out.mono ?_; rintro e w9 ⟨rfl, m9, rfl⟩
                have HT9 := Lib.hid (HT8.out.drewN m9)
                have HX9 : Hid (Doc (w8.drewN m9) xb r d h t) := Lib.hid (Blk.drewN HX8.out m9)
                have HB9 := Lib.hid (bdrewN HB8.out m9)
                clear HA HT8 HX8 HB8
                generalize w8.drewN m9 = w9 at HT9 HX9 HB9 ⊢
                have ER := Lib.hid (err_same 7 w9 (HH.out _ HB9.out))
                rw [er_7] at ER
                go_wp2_with fail
                refine ER.out.mono ?_; rintro e w6 ⟨rfl, hb6⟩
                have HT6 := Lib.hid (HT9.out.below hb6)
                have HX6 : Hid (Doc w6 xb r d h t) := Lib.hid (Blk.below HX9.out hb6)
                have HB6 := Lib.hid (bcall HB9.out hb6)
                clear hb6 HT9 HX9 HB9 ER
                obtain ⟨x0, x1, x2, x3, f2, f3⟩ := HX6.out.cells
                have t7 : (false != false) = false := by simp
                have t8 : (h != h) = false := by simp
                have t9 : (t != t) = false := by simp
                go_wp2_with fail
                go_roundw
                case rel => exact ⟨k + 1, by first | rfl | go_num, by omega, h, t, HT6, HX6, HO4, HB6⟩
                case measure => simp [intOf]; omega
              · have IN1 := Lib.hid (fun W => Go.Proofs.YtegbnldgbfbaaaaDoor.Rtt.in_any x 0 1000 W true (in_true h1))
                have IN2 := Lib.hid (fun W => Go.Proofs.YtegbnldgbfbaaaaDoor.Rtt.in_any y 0 100 W true (in_true h2))
                have t5 : decide (x < t) = false := decide_eq_false h3
                have hta : t ≤ x := by omega
                have hG : (0 ≤ x ∧ x ≤ 1000) ∧ (0 ≤ y ∧ y ≤ 100) := ⟨h1, h2⟩
                have DC := Lib.hid (fun W b' h' hb hh => rtake_any r d h t x y W HO.out hG hta _ rfl b' h' hb hh)
                have CC := Lib.hid (fun W hT => take_any g r d h t x y W hT HO.out hG hta _ rfl)
                have hfi := fill_in (x := r * (x - t)) HO.out.2.2.2.2.1 HO.out.2.2.2.2.2.1 (Int.mul_nonneg HO.out.1 (by omega))
                generalize fill d h (r * (x - t)) = f at DC CC hfi
                obtain ⟨b4, hb4⟩ : ∃ b4, decide (y ≤ f) = b4 := ⟨_, rfl⟩
                obtain ⟨h4, hh4⟩ : ∃ h4, (if y ≤ f then f - y else f) = h4 := ⟨_, rfl⟩
                have D := Lib.hid (fun W => DC.out W b4 h4 hb4 hh4)
                have HO4 : Hid (Ok r d h4 x) := Lib.hid (by
                  have o := HO.out
                  unfold Ok at o ⊢
                  rw [← hh4]
                  split <;> omega)
                have CC : Hid (∀ W, Bkt W g r d h t → Calls Tryd.prog 8 #[.pointer (some ⟨g, 0, none⟩), .int .i64 x, .int .i64 y] W fun e w' => e = .returned (.tuple #[.bool b4, .nilIface]) ∧ Bkt w' g r d h4 x ∧ W.grownBy w' (some g)) := by
                  rw [← hb4, ← hh4]
                  exact CC
                clear hb4 hh4 hfi DC hG
                clear h1 h2
                go_wp2_with fail
                refine (IN1.out _).mono ?_; rintro e wr ⟨rfl, rfl⟩
                go_wp2_with fail
                refine (IN2.out _).mono ?_; rintro e wr ⟨rfl, rfl⟩
                go_wp2_with fail
                go_quiet (fail)
                have HT3 := Lib.hid (HT.out.drewN nq)
                have HX3 : Hid (Doc (wr.drewN nq) xb r d h t) := Lib.hid (Blk.drewN HX.out nq)
                have HB3 := Lib.hid (bdrewN HB.out nq)
                clear HT HX HB HO cx0 cx3 kx ky hta h3
                generalize wr.drewN nq = w3 at HT3 HX3 HB3 ⊢
                have hB3 := HB3.out
                obtain ⟨x0, x1, x2, x3, f2, f3⟩ := HX3.out.cells
                obtain ⟨kx, ky⟩ := K.out w3 HB3.out
                go_wp2_with fail
                go_region_law (first
                  | (go_simp; go_at_call 7; refine (D.out _).mono ?_; rintro e w8 ⟨rfl, hb8⟩
                     have HX8 : Hid (Doc w8 xb r d h t) := Lib.hid (Blk.below (Blk.drew HX3.out) hb8)
                     have HT8 := Lib.hid (HT3.out.drew.below hb8)
                     have hB8 := bcall hB3.drew hb8
                     obtain ⟨x0, x1, x2, x3, f2, f3⟩ := HX8.out.cells
                     have f0 := Blk.fz HX8.out 0
                     have f1 := Blk.fz HX8.out 1))
                all_goals
                  have HX9 : Hid (Doc ((((w8.setCell ⟨xb, 0, none⟩ (.int .i64 r)).setCell ⟨xb, 1, none⟩ (.int .i64 d)).setCell ⟨xb, 2, none⟩ (.int .i64 h4)).setCell ⟨xb, 3, none⟩ (.int .i64 x)) xb r d h4 x) := Lib.hid (Blk.set (Blk.set (Blk.set (Blk.set HX8.out 0 (.int .i64 r)) 1 (.int .i64 d)) 2 (.int .i64 h4)) 3 (.int .i64 x))
                  have HT9 := Lib.hid ((((HT8.out.other xb 0 (.int .i64 r) HNE.out).other xb 1 (.int .i64 d) HNE.out).other xb 2 (.int .i64 h4) HNE.out).other xb 3 (.int .i64 x) HNE.out)
                  have HB9 := Lib.hid (below_set (below_set (below_set (below_set hB8 xb 0 (.int .i64 r) HWB.out) xb 1 (.int .i64 d) HWB.out) xb 2 (.int .i64 h4) HWB.out) xb 3 (.int .i64 x) HWB.out)
                  clear x0 x1 x2 x3 f0 f1 f2 f3 HX8 HT8 hB8 hb8 hB3 HT3 HX3 HB3 kx ky D
                  generalize (((w8.setCell ⟨xb, 0, none⟩ (.int .i64 r)).setCell ⟨xb, 1, none⟩ (.int .i64 d)).setCell ⟨xb, 2, none⟩ (.int .i64 h4)).setCell ⟨xb, 3, none⟩ (.int .i64 x) = w4 at HX9 HT9 HB9 ⊢
                  have C := Lib.hid (CC.out w4.drew HT9.out)
                  obtain ⟨HT, HX, HB⟩ : Hid (Bkt w4 g r d h t) ∧ Hid (Doc w4 xb r d h4 x) ∧ Hid (Below w.heap.size w w4) := ⟨HT9, HX9, HB9⟩
                  clear HT9 HX9 HB9 CC
                  have HTd := Lib.hid (HT.out.drewN 1)
                  have HXd : Hid (Doc (w4.drewN 1) xb r d h4 x) := Lib.hid (Blk.drewN HX.out 1)
                  have HBd := Lib.hid (bdrewN HB.out 1)
                  change Hid (Bkt w4.drew g r d h t) at HTd
                  change Hid (Doc w4.drew xb r d h4 x) at HXd
                  change Hid (Below w.heap.size w w4.drew) at HBd
                  obtain ⟨kx, ky⟩ := K.out w4 HB.out
                  clear HT HX HB
                  go_wp2_with fail
                  go_region_held3 (fun W' => W'.cell? ⟨bb, off, none⟩ = some (.int .i64 x) ∧ W'.cell? ⟨bb, off + 1, none⟩ = some (.int .i64 y))
                    (first
                      | exact K.out _ HBd.out
                      | exact K.out _ HB8.out
                      | go_keep)
                    (first
                      | (go_at_call 8; refine C.out.mono ?_; rintro e w8 ⟨rfl, hT8, hg8⟩
                         have HT8 := Lib.hid hT8
                         have HX8 : Hid (Doc w8 xb r d h4 x) := Lib.hid (Blk.more HXd.out hg8 (fun e => HNE.out (Option.some.inj e).symm))
                         have HB8 := Lib.hid (gbelow HBd.out (Nat.le_refl _) hg8 HG.out)
                         clear hT8 hg8))
                  clear C HTd HXd HBd kx ky
                  have HA := Lib.hid (has_any g r d h4 x w8 HT8.out)
                  go_wp2_with fail
                  refine HA.out.mono ?_; rintro e w9 ⟨rfl, m9, rfl⟩
                  have HT9 := Lib.hid (HT8.out.drewN m9)
                  have HX9 : Hid (Doc (w8.drewN m9) xb r d h4 x) := Lib.hid (Blk.drewN HX8.out m9)
                  have HB9 := Lib.hid (bdrewN HB8.out m9)
                  clear HA HT8 HX8 HB8
                  generalize w8.drewN m9 = w9 at HT9 HX9 HB9 ⊢
                  have ER := Lib.hid (err_same 0 w9 (HH.out _ HB9.out))
                  rw [er_0] at ER
                  go_wp2_with fail
                  refine ER.out.mono ?_; rintro e w6 ⟨rfl, hb6⟩
                  have HT6 := Lib.hid (HT9.out.below hb6)
                  have HX6 : Hid (Doc w6 xb r d h4 x) := Lib.hid (Blk.below HX9.out hb6)
                  have HB6 := Lib.hid (bcall HB9.out hb6)
                  clear hb6 HT9 HX9 HB9 ER
                  obtain ⟨x0, x1, x2, x3, f2, f3⟩ := HX6.out.cells
                  have t7 : (b4 != b4) = false := by simp
                  have t8 : (h4 != h4) = false := by simp
                  have t9 : (x != x) = false := by simp
                  go_wp2_with fail
                  go_roundw
                  case rel => exact ⟨k + 1, by first | rfl | go_num, by omega, h4, x, HT6, HX6, HO4, HB6⟩
                  case measure => simp [intOf]; omega
            · have IN1 := Lib.hid (fun W => Go.Proofs.YtegbnldgbfbaaaaDoor.Rtt.in_any x 0 1000 W true (in_true h1))
              have IN2 := Lib.hid (fun W => Go.Proofs.YtegbnldgbfbaaaaDoor.Rtt.in_any y 0 100 W false (in_false h2))
              have C := Lib.hid (take_bad g x y wr.drew (fun h => h2 h.2))
              rw [er_1] at C
              have HO4 := HO
              clear h1 h2 cx0 cx3
              go_wp2_with fail
              refine (IN1.out _).mono ?_; rintro e wr ⟨rfl, rfl⟩
              go_wp2_with fail
              refine (IN2.out _).mono ?_; rintro e wr ⟨rfl, rfl⟩
              go_wp2_with fail
              have HTd := Lib.hid (HT.out.drewN 1)
              have HXd : Hid (Doc (wr.drewN 1) xb r d h t) := Lib.hid (Blk.drewN HX.out 1)
              have HBd := Lib.hid (bdrewN HB.out 1)
              change Hid (Bkt wr.drew g r d h t) at HTd
              change Hid (Doc wr.drew xb r d h t) at HXd
              change Hid (Below w.heap.size w wr.drew) at HBd
              obtain ⟨kx, ky⟩ := K.out wr HB.out
              clear HT HX HB
              go_region_held3 (fun W' => W'.cell? ⟨bb, off, none⟩ = some (.int .i64 x) ∧ W'.cell? ⟨bb, off + 1, none⟩ = some (.int .i64 y))
                (first
                  | exact K.out _ HBd.out
                  | exact K.out _ HB8.out
                  | go_keep)
                (first
                  | (go_at_call 8; refine C.out.mono ?_; rintro e w8 ⟨rfl, rfl⟩
                     have HT8 := HTd
                     have HX8 := HXd
                     have HB8 := HBd))
              clear C HTd HXd HBd kx ky
              generalize wr.drew = w8 at HT8 HX8 HB8 ⊢
              have HA := Lib.hid (has_any g r d h t w8 HT8.out)
              go_wp2_with fail
              refine HA.out.mono ?_; rintro e w9 ⟨rfl, m9, rfl⟩
              have HT9 := Lib.hid (HT8.out.drewN m9)
              have HX9 : Hid (Doc (w8.drewN m9) xb r d h t) := Lib.hid (Blk.drewN HX8.out m9)
              have HB9 := Lib.hid (bdrewN HB8.out m9)
              clear HA HT8 HX8 HB8
              generalize w8.drewN m9 = w9 at HT9 HX9 HB9 ⊢
              have ER := Lib.hid (err_same 1 w9 (HH.out _ HB9.out))
              rw [er_1] at ER
              go_wp2_with fail
              refine ER.out.mono ?_; rintro e w6 ⟨rfl, hb6⟩
              have HT6 := Lib.hid (HT9.out.below hb6)
              have HX6 : Hid (Doc w6 xb r d h t) := Lib.hid (Blk.below HX9.out hb6)
              have HB6 := Lib.hid (bcall HB9.out hb6)
              clear hb6 HT9 HX9 HB9 ER
              obtain ⟨x0, x1, x2, x3, f2, f3⟩ := HX6.out.cells
              have t7 : (false != false) = false := by simp
              have t8 : (h != h) = false := by simp
              have t9 : (t != t) = false := by simp
              go_wp2_with fail
              go_roundw
              case rel => exact ⟨k + 1, by first | rfl | go_num, by omega, h, t, HT6, HX6, HO4, HB6⟩
              case measure => simp [intOf]; omega
          · have IN1 := Lib.hid (fun W => Go.Proofs.YtegbnldgbfbaaaaDoor.Rtt.in_any x 0 1000 W false (in_false h1))
            have C := Lib.hid (take_bad g x y wr.drew (fun h => h1 h.1))
            rw [er_1] at C
            have HO4 := HO
            clear h1 cx0 cx3
            go_wp2_with fail
            refine (IN1.out _).mono ?_; rintro e wr ⟨rfl, rfl⟩
            go_wp2_with fail
            have HTd := Lib.hid (HT.out.drewN 1)
            have HXd : Hid (Doc (wr.drewN 1) xb r d h t) := Lib.hid (Blk.drewN HX.out 1)
            have HBd := Lib.hid (bdrewN HB.out 1)
            change Hid (Bkt wr.drew g r d h t) at HTd
            change Hid (Doc wr.drew xb r d h t) at HXd
            change Hid (Below w.heap.size w wr.drew) at HBd
            obtain ⟨kx, ky⟩ := K.out wr HB.out
            clear HT HX HB
            go_region_held3 (fun W' => W'.cell? ⟨bb, off, none⟩ = some (.int .i64 x) ∧ W'.cell? ⟨bb, off + 1, none⟩ = some (.int .i64 y))
              (first
                | exact K.out _ HBd.out
                | exact K.out _ HB8.out
                | go_keep)
              (first
                | (go_at_call 8; refine C.out.mono ?_; rintro e w8 ⟨rfl, rfl⟩
                   have HT8 := HTd
                   have HX8 := HXd
                   have HB8 := HBd))
            clear C HTd HXd HBd kx ky
            generalize wr.drew = w8 at HT8 HX8 HB8 ⊢
            have HA := Lib.hid (has_any g r d h t w8 HT8.out)
            go_wp2_with fail
            refine HA.out.mono ?_; rintro e w9 ⟨rfl, m9, rfl⟩
            have HT9 := Lib.hid (HT8.out.drewN m9)
            have HX9 : Hid (Doc (w8.drewN m9) xb r d h t) := Lib.hid (Blk.drewN HX8.out m9)
            have HB9 := Lib.hid (bdrewN HB8.out m9)
            clear HA HT8 HX8 HB8
            generalize w8.drewN m9 = w9 at HT9 HX9 HB9 ⊢
            have ER := Lib.hid (err_same 1 w9 (HH.out _ HB9.out))
            rw [er_1] at ER
            go_wp2_with fail
            refine ER.out.mono ?_; rintro e w6 ⟨rfl, hb6⟩
            have HT6 := Lib.hid (HT9.out.below hb6)
            have HX6 : Hid (Doc w6 xb r d h t) := Lib.hid (Blk.below HX9.out hb6)
            have HB6 := Lib.hid (bcall HB9.out hb6)
            clear hb6 HT9 HX9 HB9 ER
            obtain ⟨x0, x1, x2, x3, f2, f3⟩ := HX6.out.cells
            have t7 : (false != false) = false := by simp
            have t8 : (h != h) = false := by simp
            have t9 : (t != t) = false := by simp
            go_wp2_with fail
            go_roundw
            case rel => exact ⟨k + 1, by first | rfl | go_num, by omega, h, t, HT6, HX6, HO4, HB6⟩
            case measure => simp [intOf]; omega
        · obtain ⟨m, hm⟩ : ∃ m, row.length = m := ⟨_, rfl⟩
          have hrl : row.length ≤ 9223372036854775807 := hI.len_le
          rw [hm] at hq' h2 hrl
          have t3 : ((m : Int) != 2) = true := by rw [bne_iff_ne]; omega
          clear hm hI hq hd0
          go_wp2_with fail
          go_roundw
          case rel => exact ⟨k + 1, by first | rfl | go_num, by omega, h, t, HT, HX, HO, HB⟩
          case measure => simp [intOf]; omega
      · have t2 : decide ((k : Int) < 60) = false := decide_eq_false (by omega)
        go_wp2_with fail
        go_ret
        exact ⟨rfl, HB.out⟩
    · have t1 : decide ((k : Int) < (n : Int)) = false := decide_eq_false (by omega)
      go_wp2_with fail
      go_ret
      exact ⟨rfl, HB.out⟩

theorem reads : Tryd.f3.params.toList.all (fun t => Tryd.prog.readableRec t && decide (t < Tryd.prog.types.size)) = true := by kernel_rfl
theorem et : Tryd.prog.globalNamed "errors.errorType" = some 0 := by kernel_rfl
theorem rt : (Tryd.prog.cutTypes.find? (·.1 == "internal/reflectlite.rtype")).map (·.2) = some 62 := by kernel_rfl
theorem oneRow : ((List.range Tryd.prog.types.size).filter fun t => Tryd.prog.rowNamed t [101, 114, 114, 111, 114]) = [25] := by kernel_rfl

theorem handle_of_laid {W : World} (h : laidMetH Tryd.prog Rows.bucketPlaysRow.laid W) : Handle W := by
  have h' : laidMet Tryd.prog [] W ∧ handlesMet Tryd.prog Rows.bucketPlaysRow.laid W := h
  obtain ⟨name, u, ty, e1, e2, e3, e4, e5⟩ := h'.2 _ (List.mem_singleton.2 rfl)
  have en : name = [101, 114, 114, 111, 114] := (Option.some.inj e1).symm
  subst en
  obtain rfl := Option.some.inj (rt.symm.trans e2)
  have hm : ty ∈ (List.range Tryd.prog.types.size).filter fun t => Tryd.prog.rowNamed t [101, 114, 114, 111, 114] := List.mem_filter.2 ⟨List.mem_range.2 e3, e4⟩
  rw [oneRow] at hm
  obtain rfl := List.mem_singleton.1 hm
  have hh : typeHandle Tryd.prog 25 = .pointer (some ⟨1, 25, none⟩) := by kernel_rfl
  rw [hh] at e5
  have e6 := World.var?_cell et e5 0
  unfold Handle
  simpa using e6

noncomputable def laidWorld (os : Os) : World :=
  { World.holding Tryd.prog os ⟨#[], #[], []⟩ with heap := (World.holding Tryd.prog os ⟨#[], #[], []⟩).heap.modify 0 fun
      | .cells _ t frozen => .cells #[.iface 62 (.agg #[.pointer (some ⟨1, 25, none⟩)])] t frozen
      | o => o }
theorem laid_met (os : Os) : laidMetH Tryd.prog Rows.bucketPlaysRow.laid ((laidWorld os).forCall (fun _ _ => 0) ⟨#[], #[.int .i64 0, .int .i64 0, .slice none 0 0], []⟩).memory :=
  laidMetH_of_parts (laidMet_nil _ _) (by kernel_rfl)
theorem reads_wit (os : Os) {H : Type} (enc : TypeId × Value → H) : ∃ places, DataW.whole enc Tryd.prog ((laidWorld os).forCall (fun _ _ => 0) ⟨#[], #[.int .i64 0, .int .i64 0, .slice none 0 0], []⟩).memory Tryd.f3.params.toList Rows.bucketPlaysSpec.vars false (#[.int .i64 0, .int .i64 0, .slice none 0 0] : Array Value).toList 8 = some ([.lit (.int .i64 0), .lit (.int .i64 0), .nil], [], places) :=
  ⟨[], by kernel_rfl⟩

theorem contract (H : Type) (enc : TypeId × Value → H) (W : World) (base : Nat) (args : Array Value) (ds gs : List (DataW H)) (before : List MemPlace)
    (hval : ∀ (j : Nat) t v, Tryd.f3.params[j]? = some t → args[j]? = some v → Value.okWide Tryd.prog W .any base t v)
    (hW : DataW.Whole enc Tryd.prog Tryd.f3.params.toList Rows.bucketPlaysSpec.vars false W args.toList ds gs before) (hL : laidMetH Tryd.prog Rows.bucketPlaysRow.laid W) :
    Calls Tryd.prog 3 args W fun e W' => ∃ v, e = .returned v ∧ Rows.bucketPlaysSpec.post enc Tryd.prog Tryd.f3 false true false false W args v W' := by
  have hW' := hW
  have hg := handle_of_laid hL
  obtain ⟨p, q, hA0, hV, rfl, hfz, hnd⟩ := hW
  have hA : DataW.TrodAll enc Tryd.prog W 0 (fun _ => true) true Tryd.f3.params.toList args.toList ds p := hA0
  have hlt := hA.lt
  rw [Tryd.params3] at hA hval
  obtain ⟨v0, vs0, d0, ds0, p0, q0, hargs, rfl, rfl, h0, r0⟩ := trodAll_cons hA
  obtain ⟨v1, vs1, d1, ds1, p1, q1, hvs1, rfl, rfl, h1, r1⟩ := trodAll_cons r0
  obtain ⟨v2, vs2, d2, ds2, p2, q2, hvs2, rfl, rfl, h2, r2⟩ := trodAll_cons r1
  obtain ⟨hvsn, rfl, rfl⟩ := trodAll_nil r2
  simp only [hvsn, hvs2, hvs1] at hargs
  obtain rfl : args = #[v0, v1, v2] := by cases args; simp_all
  obtain ⟨a0, rfl, rfl, rfl, w0⟩ := open_int Tryd.underlying3 (hval 0 3 v0 rfl rfl) h0
  have b0 := bounds_int w0
  obtain ⟨a1, rfl, rfl, rfl, w1⟩ := open_int Tryd.underlying3 (hval 1 3 v1 rfl rfl) h1
  have b1 := bounds_int w1
  obtain ⟨p2a, cap2, l2, rfl, i2, e2⟩ := open_rows Tryd.underlying22 Tryd.underlying32 Tryd.underlying3 (by kernel_rfl) (by kernel_rfl) (hval 2 22 v2 rfl rfl) h2 (fun x hx => hlt x (by simp [hx]))
  obtain ⟨rfl, rfl⟩ := trodVars_none hV
  clear hA0
  exact law_post 4 laid reads rfl Tryd.underlying4 rfl hW' ⟨rfl, rfl, rfl⟩ (by
    by_cases h : (0 ≤ a0 ∧ a0 ≤ 20) ∧ (0 ≤ a1 ∧ a1 ≤ 100)
    · exact law_good a0 a1 _ _ _ l2 W hg h rfl i2
    · exact law_bad a0 a1 _ _ _ W hg h)

set_option maxRecDepth 100000 in
theorem lifted (os : Os) (started : os.Started) (H : Type) (enc : TypeId × Value → H) (F : Stop.Interp) :
    ReturnsInHanded {} Tryd.checked os 3 .any ((OpenSpec.ofChange Rows.bucketPlaysSpec).preRow enc Tryd.prog Tryd.f3 Rows.bucketPlaysRow.domain false Rows.bucketPlaysRow.laid) (((OpenSpec.ofChange Rows.bucketPlaysSpec).at F).post enc Tryd.prog Tryd.f3 false true false false) := by
  obtain ⟨places, hx⟩ := reads_wit os enc
  refine returnsInHanded_of_row (C := Tryd.checked) (s := (OpenSpec.ofChange Rows.bucketPlaysSpec)) own started (by kernel_rfl) Tryd.func3
    (witness_row_at (enc := enc) (C := Tryd.checked) false (laidWorld os) #[.int .i64 0, .int .i64 0, .slice none 0 0] rfl (by kernel_rfl) (by kernel_rfl) (by kernel_rfl)
      (OpenSpec.preRow_of_cond 8 hx (by kernel_rfl) (fun k hk => by cases hk) (by kernel_rfl) (laid_met os))) ?_
  intro W base args ds gs before hval hW _ hcond _ hL _ _
  exact contract H enc W base args ds gs before hval hW hL

theorem said : Rows.BucketPlaysSaid :=
  OpenClaim.holds_of_cond 3 Tryd.f3 rfl rfl rfl rfl rfl rfl rfl ⟨rfl, rfl, rfl, rfl, rfl⟩ rfl rfl rfl rfl rfl (by kernel_rfl) Tryd.func3 (by kernel_rfl)
    (of_decide_eq_true (by kernel_rfl)) (by unfold Func.isWrapper; first | (rw [if_pos (by decide +kernel)]; kernel_rfl) | (rw [if_neg (by decide +kernel)]; exact ⟨rfl, rfl⟩))
    (fun os started H enc _ F => by rw [OpenClaim.pre_eq_preRow]; exact lifted os started H enc F)

theorem plain (f : FuncId) (fn : Func) (hf : Tryd.pinned.checked.prog.funcNamed Rows.bucketPlaysRow.func = some f) (hfn : Tryd.pinned.checked.prog.funcs[f]? = some fn) :
    true = Tryd.pinned.checked.prog.looks [] ∧ ∀ (j : Nat) t, fn.params[j]? = some t → Tryd.pinned.checked.prog.wantsStandIn t = false := by
  obtain rfl : f = 3 := Option.some.inj ((show Tryd.prog.funcNamed Rows.bucketPlaysRow.func = some 3 by kernel_rfl).symm.trans hf) |>.symm
  obtain rfl : fn = Tryd.f3 := (Option.some.inj (Tryd.func3.symm.trans hfn)).symm
  refine ⟨by kernel_rfl, fun j t ht => ?_⟩
  have hall : Tryd.f3.params.toList.all (fun t => !Tryd.prog.wantsStandIn t) = true := by kernel_rfl
  have hm : t ∈ Tryd.f3.params.toList := by simpa using Array.mem_of_getElem? ht
  have := List.all_eq_true.1 hall t hm
  show Tryd.prog.wantsStandIn t = false
  simpa using this

theorem proved : Rows.BucketPlaysCardSaid :=
  Claim7.holds_tied_plain_at .later [] _ _ _ _ said (fun _ h => by cases h) (by kernel_rfl) (fun _ h => by cases h) bucketPlays_row_tie rfl ⟨rfl, rfl⟩ (by kernel_rfl) rfl plain (by kernel_rfl)
end Go.Proofs.YtegbnldgbfbaaaaDoor.BucketPlaysL
