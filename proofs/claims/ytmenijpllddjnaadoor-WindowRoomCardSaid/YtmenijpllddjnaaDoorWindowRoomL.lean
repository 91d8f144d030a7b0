/- WindowRoom: no more waits than there is room for, whatever is sent, eaten and granted; and all that is eaten can be sent again when it is granted: for every input, the row's handle laid as the card says. -/
import Derived.Test.YtmenijpllddjnaaDoorCards
import Derived.Test.YtmenijpllddjnaaDoorTie
import Derived.Deep.DeepHandedRow
import Derived.Lib.LaidTab
import Derived.LaidHandle
import Derived.SevenTiedAt
import Derived.Test.YtmenijpllddjnaaDoorWindowLaw
import Derived.Test.YtmenijpllddjnaaDoorRows0
namespace Go.Proofs.YtmenijpllddjnaaDoor.WindowRoomL
open Go.ChangeShapes Go.WideShapes Go.ChangeAt Go.RowKit Go.Proofs.YtmenijpllddjnaaDoor.Kit Go.Proofs.YtmenijpllddjnaaDoor.App Go.Proofs.YtmenijpllddjnaaDoor.Err Go.Proofs.YtmenijpllddjnaaDoor.Window Go.Proofs.YtmenijpllddjnaaDoor.As
set_option linter.unusedVariables false
set_option maxRecDepth 20000

abbrev Law (n : Int) (p : Option Addr) (m cap : Nat) (w : World) : Prop := Calls Tryd.prog 3 #[.int .i64 n, .slice p m cap] w fun e w' => e = .returned (.bool true) ∧ Below w.heap.size w w'
theorem law_bad (n : Int) (p : Option Addr) (m cap : Nat) (w : World) (hg : Handle w) (hn : ¬ (0 ≤ n ∧ n ≤ 100)) : Law n p m cap w := by
  have FA := Lib.hid (fact_any w hg)
  have NB := Lib.hid (fun W => new_bad n W hn)
  have IN := Lib.hid (fun W => Go.Proofs.YtmenijpllddjnaaDoor.Rtt.in_any n 0 100 W false (in_false hn))
  rw [er_1] at NB
  clear hg hn
  unfold Law
  go_enter Tryd.func3, Tryd.ntmps3
  go_wp2_with fail
  refine FA.out.mono ?_; rintro e w1 ⟨rfl, hb1⟩
  go_wp2_with fail
  refine (NB.out _).mono ?_; rintro e w2 ⟨rfl, rfl⟩
  go_wp2_with fail
  refine (IN.out _).mono ?_; rintro e w3 ⟨rfl, rfl⟩
  go_wp2_with fail
  go_ret
  exact ⟨rfl, hb1⟩
set_option maxHeartbeats 4000000 in
theorem law_good (n0 : Int) (p0 : Option Addr) (n cap : Nat) (ls : List (List Int)) (w : World) (hH : Handle w) (hn0 : 0 ≤ n0 ∧ n0 ≤ 100) (hn : n = ls.length) (hR : RowsI w p0 cap ls) : Law n0 p0 n cap w := by
  have FA := Lib.hid (fact_any w hH)
  have NG := Lib.hid (fun W => new_good n0 W hn0)
  have HR := Lib.hid hR
  have hcap := hR.len_le
  rw [← hn] at hcap
  have HN := Lib.hid hn
  clear hn hR hH
  unfold Law
  go_enter Tryd.func3, Tryd.ntmps3
  go_wp2_with fail
  refine FA.out.mono ?_; rintro e w1 ⟨rfl, hb1⟩
  go_wp2_with fail
  refine (NG.out _).mono ?_; rintro e w2 ⟨rfl, hT2, hb2⟩
  have HT2 := Lib.hid hT2
  have HB2 := Lib.hid (bcall hb1 hb2)
  obtain ⟨g, hg⟩ : ∃ g, w1.heap.size = g := ⟨_, rfl⟩
  have HG := Lib.hid (Nat.le_trans hb1.size (Nat.le_of_eq hg))
  have HO2 := Lib.hid (show Ok n0 0 n0 by unfold Ok; omega)
  rw [hg] at HT2 ⊢
  clear hg NG hT2 hb2 hb1 FA
  have WA := Lib.hid (fun W b c hT => waits_any g n0 b c W hT)
  have GR := Lib.hid (fun b c W hT hO => grant_any g n0 b c W hT hO)
  go_wp2_with fail
  go_loopw [8] (fun iv wr => ∃ k : Nat, iv = .int .i64 (k : Int) ∧ k ≤ n ∧ ∃ b c, Hid (Pip wr g n0 b c) ∧ Hid (Ok n0 b c) ∧ Hid (Below w.heap.size w wr)) (fun i _ => n - (intOf i).toNat)
  case atStart => exact ⟨0, rfl, Nat.zero_le _, 0, n0, HT2, HO2, HB2⟩
  case round =>
    obtain ⟨k, rfl, hk, b0, c0, HT0, HO0, HB0⟩ := hrel
    clear HT2 HO2 HB2
    by_cases hkn : k < n
    · have t1 : decide ((k : Int) < (n : Int)) = true := decide_eq_true (by omega)
      by_cases hk60 : k < 60
      · have t2 : decide ((k : Int) < 60) = true := decide_eq_true (by omega)
        obtain ⟨d0, off0, rfl, hd0, hrow⟩ := HR.out.2.2 (by have := HN.out; omega)
        obtain ⟨qr, cr, hq, hI⟩ := hrow k (by have := HN.out; omega)
        have hq' : wr.cell? ⟨d0, off0 + k, none⟩ = some (.slice qr (ls[k]?.getD []).length cr) := (HB0.out.cell (p := ⟨d0, off0 + k, none⟩) hd0).trans hq
        clear hq hrow hd0
        generalize ls[k]?.getD [] = row at hq' hI
        by_cases h2 : row.length = 2
        · obtain ⟨bb, off, rfl, hbb, hcs⟩ := hI.2.2.2 (by omega)
          have hx : wr.cell? ⟨bb, off, none⟩ = some (.int .i64 (row[0]?.getD 0)) := (HB0.out.cell (p := ⟨bb, off, none⟩) hbb).trans (hcs 0 (by omega))
          have hy : wr.cell? ⟨bb, off + 1, none⟩ = some (.int .i64 (row[1]?.getD 0)) := (HB0.out.cell (p := ⟨bb, off + 1, none⟩) hbb).trans (hcs 1 (by omega))
          generalize row[0]?.getD 0 = x at hx
          generalize row[1]?.getD 0 = y at hy
          rw [h2] at hq'
          clear hcs hI hbb h2
          by_cases hx0 : x = 0
          · have t3 : (x == 0) = true := by rw [beq_iff_eq]; exact hx0
            have CC := Lib.hid (send_keep g n0 b0 c0 y wr HT0.out HO0.out)
            clear hx0
            go_wp2_with fail
            refine CC.out.mono ?_; rintro e w4 ⟨v, b4, c4, rfl, hT4, hO4, hg4⟩
            have HT := Lib.hid hT4
            have HO := Lib.hid hO4
            have HB := Lib.hid (gbelow HB0.out (Nat.le_refl _) hg4 HG.out)
            clear HT0 HO0 HB0 hT4 hO4 hg4
            go_wp2_with fail
            refine (WA.out _ _ _ HT.out).mono ?_; rintro e w5 ⟨rfl, m5, rfl⟩
            have HB5 := Lib.hid (bdrewN HB.out m5)
            have HT5 := Lib.hid (HT.out.drewN m5)
            obtain ⟨o1, o2, o3, o4⟩ := HO.out
            clear HT HB
            generalize w4.drewN m5 = w5 at HT5 HB5 ⊢
            have t7 : decide (b4 < 0) = false := decide_eq_false (by omega)
            have t8 : decide (c4 < 0) = false := decide_eq_false (by omega)
            have t9 : decide (n0 < b4 + c4) = false := decide_eq_false (by omega)
            go_wp2_with fail
            go_roundw
            case rel => exact ⟨k + 1, by first | rfl | go_num, by omega, b4, c4, HT5, HO, HB5⟩
            case measure => simp [intOf]; omega
          · have t3 : (x == 0) = false := by rw [beq_eq_false_iff_ne]; exact hx0
            by_cases hx1 : x = 1
            · have t4 : (x == 1) = true := by rw [beq_iff_eq]; exact hx1
              have CC := Lib.hid (eat_keep g n0 b0 c0 y wr HT0.out HO0.out)
              clear hx0 hx1
              go_wp2_with fail
              refine CC.out.mono ?_; rintro e w4 ⟨v, b4, c4, rfl, hT4, hO4, hg4⟩
              have HT := Lib.hid hT4
              have HO := Lib.hid hO4
              have HB := Lib.hid (gbelow HB0.out (Nat.le_refl _) hg4 HG.out)
              clear HT0 HO0 HB0 hT4 hO4 hg4
              go_wp2_with fail
              refine (WA.out _ _ _ HT.out).mono ?_; rintro e w5 ⟨rfl, m5, rfl⟩
              have HB5 := Lib.hid (bdrewN HB.out m5)
              have HT5 := Lib.hid (HT.out.drewN m5)
              obtain ⟨o1, o2, o3, o4⟩ := HO.out
              clear HT HB
              generalize w4.drewN m5 = w5 at HT5 HB5 ⊢
              have t7 : decide (b4 < 0) = false := decide_eq_false (by omega)
              have t8 : decide (c4 < 0) = false := decide_eq_false (by omega)
              have t9 : decide (n0 < b4 + c4) = false := decide_eq_false (by omega)
              go_wp2_with fail
              go_roundw
              case rel => exact ⟨k + 1, by first | rfl | go_num, by omega, b4, c4, HT5, HO, HB5⟩
              case measure => simp [intOf]; omega
            · have t4 : (x == 1) = false := by rw [beq_eq_false_iff_ne]; exact hx1
              clear hx0 hx1
              have CC := Lib.hid (GR.out b0 c0 wr HT0.out HO0.out)
              obtain ⟨o1, o2, o3, o4⟩ := HO0.out
              have t5 : decide (n0 - b0 - c0 < 0) = false := decide_eq_false (by omega)
              generalize n0 - b0 - c0 = dd at CC t5
              go_wp2_with fail
              refine CC.out.mono ?_; rintro e w4 ⟨rfl, hT4, hg4⟩
              have HO := Lib.hid (show Ok n0 b0 (n0 - b0) by unfold Ok; omega)
              have HT := Lib.hid hT4
              have HB := Lib.hid (gbelow HB0.out (Nat.le_refl _) hg4 HG.out)
              clear HT0 HO0 HB0 hT4 hg4 o1 o2 o3 o4
              obtain ⟨b4, hb4⟩ : ∃ b4, b0 = b4 := ⟨_, rfl⟩
              obtain ⟨c4, hc4⟩ : ∃ c4, n0 - b0 = c4 := ⟨_, rfl⟩
              rw [hc4, hb4] at HO HT
              clear hc4 hb4 CC
              go_wp2_with fail
              refine (WA.out _ _ _ HT.out).mono ?_; rintro e w5 ⟨rfl, m5, rfl⟩
              have HB5 := Lib.hid (bdrewN HB.out m5)
              have HT5 := Lib.hid (HT.out.drewN m5)
              obtain ⟨o1, o2, o3, o4⟩ := HO.out
              clear HT HB
              generalize w4.drewN m5 = w5 at HT5 HB5 ⊢
              have t7 : decide (b4 < 0) = false := decide_eq_false (by omega)
              have t8 : decide (c4 < 0) = false := decide_eq_false (by omega)
              have t9 : decide (n0 < b4 + c4) = false := decide_eq_false (by omega)
              go_wp2_with fail
              go_roundw
              case rel => exact ⟨k + 1, by first | rfl | go_num, by omega, b4, c4, HT5, HO, HB5⟩
              case measure => simp [intOf]; omega
        · have hrl : row.length ≤ 9223372036854775807 := by have h4 := hI.1; have h5 := hI.2.1; unfold maxLen at h5; omega
          obtain ⟨m, hm⟩ : ∃ m, row.length = m := ⟨_, rfl⟩
          rw [hm] at hq' h2 hrl
          have t3 : ((m : Int) != 2) = true := by rw [bne_iff_ne]; omega
          clear hm hI
          go_wp2_with fail
          go_roundw
          case rel => exact ⟨k + 1, by first | rfl | go_num, by omega, b0, c0, HT0, HO0, HB0⟩
          case measure => simp [intOf]; omega
      · have t2 : decide ((k : Int) < 60) = false := decide_eq_false (by omega)
        go_wp2_with fail
        refine (GR.out b0 c0 _ HT0.out HO0.out).mono ?_; rintro e w4 ⟨rfl, hT4, hg4⟩
        have HT4 := Lib.hid hT4
        have HB4 := Lib.hid (gbelow HB0.out (Nat.le_refl _) hg4 HG.out)
        obtain ⟨o1, o2, o3, o4⟩ := HO0.out
        clear HT0 HB0 hT4 hg4
        go_wp2_with fail
        refine (WA.out _ _ _ HT4.out).mono ?_; rintro e w5 ⟨rfl, m5, rfl⟩
        have HB5 := Lib.hid (bdrewN HB4.out m5)
        have HT5 := Lib.hid (HT4.out.drewN m5)
        clear HT4 HB4
        generalize w4.drewN m5 = w5 at HT5 HB5 ⊢
        have E := Lib.hid (eat_good g n0 b0 (n0 - b0) b0 w5 HT5.out (by unfold Ok; omega) (by omega) (by omega))
        rw [er_0, show b0 - b0 = 0 by omega] at E
        obtain ⟨d, hd⟩ : ∃ d, n0 - b0 = d := ⟨_, rfl⟩
        rw [hd] at E ⊢
        have t6 : b0 + d = n0 := by omega
        have t7 : (b0 + d == n0) = true := by rw [beq_iff_eq]; exact t6
        go_wp2_with fail
        refine E.out.mono ?_; rintro e w6 ⟨rfl, hT6, hg6⟩
        have HT6 := Lib.hid hT6
        have HB6 := Lib.hid (gbelow HB5.out (Nat.le_refl _) hg6 HG.out)
        clear hT6 hg6 HT5 HB5
        have C := Lib.hid (GR.out 0 d _ HT6.out (by unfold Ok; omega))
        rw [show n0 - 0 - d = b0 by omega, show n0 - 0 = n0 by omega] at C
        go_wp2_with fail
        refine C.out.mono ?_; rintro e w7 ⟨rfl, hT7, hg7⟩
        have HT7 := Lib.hid hT7
        have HB7 := Lib.hid (gbelow HB6.out (Nat.le_refl _) hg7 HG.out)
        clear hT7 hg7 HT6 HB6 C
        have C := Lib.hid (send_good g n0 0 n0 n0 w7 HT7.out (by unfold Ok; omega) (by omega) (by omega))
        rw [er_0] at C
        go_wp2_with fail
        refine C.out.mono ?_; rintro e w8 ⟨rfl, hT8, hg8⟩
        have HB8 := Lib.hid (gbelow HB7.out (Nat.le_refl _) hg8 HG.out)
        clear hT8 hg8
        go_wp2_with fail
        go_ret
        exact ⟨by first | rfl | simp, HB8.out⟩
    · have t1 : decide ((k : Int) < (n : Int)) = false := decide_eq_false (by omega)
      go_wp2_with fail
      refine (GR.out b0 c0 _ HT0.out HO0.out).mono ?_; rintro e w4 ⟨rfl, hT4, hg4⟩
      have HT4 := Lib.hid hT4
      have HB4 := Lib.hid (gbelow HB0.out (Nat.le_refl _) hg4 HG.out)
      obtain ⟨o1, o2, o3, o4⟩ := HO0.out
      clear HT0 HB0 hT4 hg4
      go_wp2_with fail
      refine (WA.out _ _ _ HT4.out).mono ?_; rintro e w5 ⟨rfl, m5, rfl⟩
      have HB5 := Lib.hid (bdrewN HB4.out m5)
      have HT5 := Lib.hid (HT4.out.drewN m5)
      clear HT4 HB4
      generalize w4.drewN m5 = w5 at HT5 HB5 ⊢
      have E := Lib.hid (eat_good g n0 b0 (n0 - b0) b0 w5 HT5.out (by unfold Ok; omega) (by omega) (by omega))
      rw [er_0, show b0 - b0 = 0 by omega] at E
      obtain ⟨d, hd⟩ : ∃ d, n0 - b0 = d := ⟨_, rfl⟩
      rw [hd] at E ⊢
      have t6 : b0 + d = n0 := by omega
      have t7 : (b0 + d == n0) = true := by rw [beq_iff_eq]; exact t6
      go_wp2_with fail
      refine E.out.mono ?_; rintro e w6 ⟨rfl, hT6, hg6⟩
      have HT6 := Lib.hid hT6
      have HB6 := Lib.hid (gbelow HB5.out (Nat.le_refl _) hg6 HG.out)
      clear hT6 hg6 HT5 HB5
      have C := Lib.hid (GR.out 0 d _ HT6.out (by unfold Ok; omega))
      rw [show n0 - 0 - d = b0 by omega, show n0 - 0 = n0 by omega] at C
      go_wp2_with fail
      refine C.out.mono ?_; rintro e w7 ⟨rfl, hT7, hg7⟩
      have HT7 := Lib.hid hT7
      have HB7 := Lib.hid (gbelow HB6.out (Nat.le_refl _) hg7 HG.out)
      clear hT7 hg7 HT6 HB6 C
      have C := Lib.hid (send_good g n0 0 n0 n0 w7 HT7.out (by unfold Ok; omega) (by omega) (by omega))
      rw [er_0] at C
      go_wp2_with fail
      refine C.out.mono ?_; rintro e w8 ⟨rfl, hT8, hg8⟩
      have HB8 := Lib.hid (gbelow HB7.out (Nat.le_refl _) hg8 HG.out)
      clear hT8 hg8
      go_wp2_with fail
      go_ret
      exact ⟨by first | rfl | simp, HB8.out⟩

theorem reads : Tryd.f3.params.toList.all (fun t => Tryd.prog.readableRec t && decide (t < Tryd.prog.types.size)) = true := by kernel_rfl
theorem et : Tryd.prog.globalNamed "errors.errorType" = some 0 := by kernel_rfl
theorem rt : (Tryd.prog.cutTypes.find? (·.1 == "internal/reflectlite.rtype")).map (·.2) = some 59 := by kernel_rfl
theorem oneRow : ((List.range Tryd.prog.types.size).filter fun t => Tryd.prog.rowNamed t [101, 114, 114, 111, 114]) = [26] := by kernel_rfl

theorem handle_of_laid {W : World} (h : laidMetH Tryd.prog Rows.windowRoomRow.laid W) : Handle W := by
  have h' : laidMet Tryd.prog [] W ∧ handlesMet Tryd.prog Rows.windowRoomRow.laid W := h
  obtain ⟨name, u, ty, e1, e2, e3, e4, e5⟩ := h'.2 _ (List.mem_singleton.2 rfl)
  have en : name = [101, 114, 114, 111, 114] := (Option.some.inj e1).symm
  subst en
  obtain rfl := Option.some.inj (rt.symm.trans e2)
  have hm : ty ∈ (List.range Tryd.prog.types.size).filter fun t => Tryd.prog.rowNamed t [101, 114, 114, 111, 114] := List.mem_filter.2 ⟨List.mem_range.2 e3, e4⟩
  rw [oneRow] at hm
  obtain rfl := List.mem_singleton.1 hm
  have hh : typeHandle Tryd.prog 26 = .pointer (some ⟨1, 26, none⟩) := by kernel_rfl
  rw [hh] at e5
  have e6 := World.var?_cell et e5 0
  unfold Handle
  simpa using e6

noncomputable def laidWorld (os : Os) : World :=
  { World.holding Tryd.prog os ⟨#[], #[], []⟩ with heap := (World.holding Tryd.prog os ⟨#[], #[], []⟩).heap.modify 0 fun
      | .cells _ t frozen => .cells #[.iface 59 (.agg #[.pointer (some ⟨1, 26, none⟩)])] t frozen
      | o => o }
theorem laid_met (os : Os) : laidMetH Tryd.prog Rows.windowRoomRow.laid ((laidWorld os).forCall (fun _ _ => 0) ⟨#[], #[.int .i64 0, .slice none 0 0], []⟩).memory :=
  laidMetH_of_parts (laidMet_nil _ _) (by kernel_rfl)
theorem reads_wit (os : Os) {H : Type} (enc : TypeId × Value → H) : ∃ places, DataW.whole enc Tryd.prog ((laidWorld os).forCall (fun _ _ => 0) ⟨#[], #[.int .i64 0, .slice none 0 0], []⟩).memory Tryd.f3.params.toList Rows.windowRoomSpec.vars false (#[.int .i64 0, .slice none 0 0] : Array Value).toList 8 = some ([.lit (.int .i64 0), .nil], [], places) :=
  ⟨[], by kernel_rfl⟩

theorem contract (H : Type) (enc : TypeId × Value → H) (W : World) (base : Nat) (args : Array Value) (ds gs : List (DataW H)) (before : List MemPlace)
    (hval : ∀ (j : Nat) t v, Tryd.f3.params[j]? = some t → args[j]? = some v → Value.okWide Tryd.prog W .any base t v)
    (hW : DataW.Whole enc Tryd.prog Tryd.f3.params.toList Rows.windowRoomSpec.vars false W args.toList ds gs before) (hL : laidMetH Tryd.prog Rows.windowRoomRow.laid W) :
    Calls Tryd.prog 3 args W fun e W' => ∃ v, e = .returned v ∧ Rows.windowRoomSpec.post enc Tryd.prog Tryd.f3 false true false false W args v W' := by
  have hW' := hW
  have hg := handle_of_laid hL
  obtain ⟨p, q, hA0, hV, rfl, hfz, hnd⟩ := hW
  have hA : DataW.TrodAll enc Tryd.prog W 0 (fun _ => true) true Tryd.f3.params.toList args.toList ds p := hA0
  have hlt := hA.lt
  rw [Tryd.params3] at hA hval
  obtain ⟨v0, vs0, d0, ds0, p0, q0, hargs, rfl, rfl, h0, r0⟩ := trodAll_cons hA
  obtain ⟨v1, vs1, d1, ds1, p1, q1, hvs1, rfl, rfl, h1, r1⟩ := trodAll_cons r0
  obtain ⟨hvsn, rfl, rfl⟩ := trodAll_nil r1
  simp only [hvsn, hvs1] at hargs
  obtain rfl : args = #[v0, v1] := by cases args; simp_all
  obtain ⟨a0, rfl, rfl, rfl, w0⟩ := open_int Tryd.underlying3 (hval 0 3 v0 rfl rfl) h0
  have b0 := bounds_int w0
  obtain ⟨p1a, cap1, l1, rfl, i1, e1⟩ := open_rows Tryd.underlying22 Tryd.underlying30 Tryd.underlying3 (by kernel_rfl) (by kernel_rfl) (hval 1 22 v1 rfl rfl) h1 (fun x hx => hlt x (by simp [hx]))
  obtain ⟨rfl, rfl⟩ := trodVars_none hV
  clear hA0
  exact law_post 4 laid reads rfl Tryd.underlying4 rfl hW' ⟨rfl, rfl, rfl⟩ (by
    by_cases h : 0 ≤ a0 ∧ a0 ≤ 100
    · exact law_good a0 _ _ _ l1 W hg h rfl i1
    · exact law_bad a0 _ _ _ W hg h)

set_option maxRecDepth 100000 in
theorem lifted (os : Os) (started : os.Started) (H : Type) (enc : TypeId × Value → H) (F : Stop.Interp) :
    ReturnsInHanded {} Tryd.checked os 3 .any ((OpenSpec.ofChange Rows.windowRoomSpec).preRow enc Tryd.prog Tryd.f3 Rows.windowRoomRow.domain false Rows.windowRoomRow.laid) (((OpenSpec.ofChange Rows.windowRoomSpec).at F).post enc Tryd.prog Tryd.f3 false true false false) := by
  obtain ⟨places, hx⟩ := reads_wit os enc
  refine returnsInHanded_of_row (C := Tryd.checked) (s := (OpenSpec.ofChange Rows.windowRoomSpec)) own started (by kernel_rfl) Tryd.func3
    (witness_row_at (enc := enc) (C := Tryd.checked) false (laidWorld os) #[.int .i64 0, .slice none 0 0] rfl (by kernel_rfl) (by kernel_rfl) (by kernel_rfl)
      (OpenSpec.preRow_of_cond 8 hx (by kernel_rfl) (fun k hk => by cases hk) (by kernel_rfl) (laid_met os))) ?_
  intro W base args ds gs before hval hW _ hcond _ hL _ _
  exact contract H enc W base args ds gs before hval hW hL

theorem said : Rows.WindowRoomSaid :=
  OpenClaim.holds_of_cond 3 Tryd.f3 rfl rfl rfl rfl rfl rfl rfl ⟨rfl, rfl, rfl, rfl, rfl⟩ rfl rfl rfl rfl rfl (by kernel_rfl) Tryd.func3 (by kernel_rfl)
    (of_decide_eq_true (by kernel_rfl)) (by unfold Func.isWrapper; first | (rw [if_pos (by decide +kernel)]; kernel_rfl) | (rw [if_neg (by decide +kernel)]; exact ⟨rfl, rfl⟩))
    (fun os started H enc _ F => by rw [OpenClaim.pre_eq_preRow]; exact lifted os started H enc F)

theorem plain (f : FuncId) (fn : Func) (hf : Tryd.pinned.checked.prog.funcNamed Rows.windowRoomRow.func = some f) (hfn : Tryd.pinned.checked.prog.funcs[f]? = some fn) :
    true = Tryd.pinned.checked.prog.looks [] ∧ ∀ (j : Nat) t, fn.params[j]? = some t → Tryd.pinned.checked.prog.wantsStandIn t = false := by
  obtain rfl : f = 3 := Option.some.inj ((show Tryd.prog.funcNamed Rows.windowRoomRow.func = some 3 by kernel_rfl).symm.trans hf) |>.symm
  obtain rfl : fn = Tryd.f3 := (Option.some.inj (Tryd.func3.symm.trans hfn)).symm
  refine ⟨by kernel_rfl, fun j t ht => ?_⟩
  have hall : Tryd.f3.params.toList.all (fun t => !Tryd.prog.wantsStandIn t) = true := by kernel_rfl
  have hm : t ∈ Tryd.f3.params.toList := by simpa using Array.mem_of_getElem? ht
  have := List.all_eq_true.1 hall t hm
  show Tryd.prog.wantsStandIn t = false
  simpa using this

theorem proved : Rows.WindowRoomCardSaid :=
  Claim7.holds_tied_plain_at .later [] _ _ _ _ said (fun _ h => by cases h) (by kernel_rfl) (fun _ h => by cases h) windowRoom_row_tie rfl ⟨rfl, rfl⟩ (by kernel_rfl) rfl plain (by kernel_rfl)
end Go.Proofs.YtmenijpllddjnaaDoor.WindowRoomL
