/- The contract of srep.Run. No statement is proved here. -/
import Derived.Test.YthiebkkfgegebaaSrepSys
import Derived.Test.YthiebkkfgegebaaGbn1
import Derived.Deep.RegionHeld3
namespace Go.Proofs.Ythiebkkfgegebaa.Srep
open Go.ChangeShapes Go.WideShapes Go.ChangeAt Go.RowKit Go.Proofs.Ythiebkkfgegebaa.Kit Go.Proofs.Ythiebkkfgegebaa.App Go.Proofs.Ythiebkkfgegebaa.Cells Go.Proofs.Ythiebkkfgegebaa.Fate Go.Proofs.Ythiebkkfgegebaa.Abp Go.Proofs.Ythiebkkfgegebaa.Gbn Go.Proofs.Ythiebkkfgegebaa.Queue Go.Proofs.Ythiebkkfgegebaa.MapF Go.Proofs.Ythiebkkfgegebaa.SrepMath
set_option linter.unusedVariables false
set_option maxRecDepth 20000

theorem run_bad (p q : Option Addr) (cap cq n m : Nat) (l : List Int) (W R : Int) (w : World) (hn : n = l.length) (hi : Ints w p cap l) (hm : m ≤ 9223372036854775807) (c : Int) (hc : c = badG l W R m) (h0 : c ≠ 0) :
    Calls Try.prog 7 #[.slice p n cap, .int .i64 W, .int .i64 R, .slice q m cq] w fun e w' => e = .returned (.tuple #[.slice none 0 0, .int .i64 0, er c]) ∧ w' = w := by
  have CK := Lib.hid (fun W' (h : Ints W' p cap l) => Gbn.check_any p q cap cq n m l W R W' hn h hm c hc)
  have HI := Lib.hid hi
  have HE := Lib.hid (er_ne h0)
  rw [er_ne h0] at CK
  clear hi hn hm hc h0
  go_enter Try.func7, Try.ntmps7
  go_wp2_with fail
  refine (CK.out _ HI.out).mono ?_; rintro e w1 ⟨rfl, rfl⟩
  go_wp2_with fail
  go_ret3
  exact ⟨by rw [HE.out]; rfl, rfl⟩

theorem aszS (w : World) (o : Obj) : (w.alloc o).heap.size = w.heap.size + 1 := by simp
theorem back_yes {sh : Nat → Option Bool} {x : Nat} {q : List Nat} (h : (sh x).getD false = true) : back sh x q = q := by unfold back; rw [if_pos h]
theorem back_no {sh : Nat → Option Bool} {x : Nat} {q : List Nat} (h : (sh x).getD false = false) : back sh x q = q ++ [x] := by unfold back; rw [if_neg (by rw [h]; decide)]

set_option maxHeartbeats 16000000 in
theorem run_good (p q : Option Addr) (cap cq n m W R : Nat) (l : List Int) (fs : List Fat) (w : World) (hn : n = l.length) (hm : m = fs.length) (hi : Ints w p cap l) (hf : CI lay w q cq fs) (h0 : badG l W R m = 0) (T : St) (hr : SrepMath.run l W R fs (st0 n W) = T) :
    Calls Try.prog 7 #[.slice p n cap, .int .i64 W, .int .i64 R, .slice q m cq] w fun e w' => ∃ v, e = .returned (.tuple #[v, .int .i64 (T.sf : Nat), .nilIface]) ∧ OwnI w' w.heap.size v T.g ∧ Below w.heap.size w w' := by
  have hlm := hf.len_le
  rw [← hm] at hlm
  have CK := Lib.hid (fun W' (h : Ints W' p cap l) => Gbn.check_any p q cap cq n m l W R W' hn h hlm 0 h0.symm)
  rw [er_0] at CK
  obtain ⟨hb0, hW1, hW8, hR2, hR16⟩ := (badG_zero l W R m).1 h0
  have hW1 : 1 ≤ W := by omega
  have hW8 : W ≤ 8 := by omega
  have hR2 : 2 ≤ R := by omega
  have hR16 : R ≤ 16 := by omega
  obtain ⟨hl20, hm200, hfit⟩ := (bad_zero l m).1 hb0
  rw [← hn] at hl20
  have HI := Lib.hid hi
  have HF := Lib.hid hf
  have HN := Lib.hid hn
  have HM := Lib.hid hm
  have R0 := Lib.hid (show SrepMath.run l W R (fs.drop 0) (st0 n W) = T from hr)
  have I0 := Lib.hid (show SrepMath.Inv n W 0 (st0 n W) from inv0 n W hW8)
  obtain ⟨e0, he0⟩ : ∃ e0, min W n = e0 := ⟨_, rfl⟩
  have he0b : e0 ≤ 20 := by omega
  have mn0 : (if (n : Int) < (W : Int) then (n : Int) else (W : Int)) = (e0 : Int) := by split <;> omega
  have mn1 : (if n < W then (n : Int) else (W : Int)) = (e0 : Int) := by split <;> omega
  have HQ0 := Lib.hid (show (st0 n W).q = spn 0 e0 by rw [← he0]; rfl)
  clear hi hf hn hm hr h0 hfit hb0 he0
  go_enter Try.func7, Try.ntmps7
  go_wp2_with fail
  refine (CK.out _ HI.out).mono ?_; rintro e w1 ⟨rfl, rfl⟩
  go_wp2_with fail
  refine (int.open_any W R _).mono ?_; rintro e w2 ⟨rfl, hwi, hmi, hb2, hs2⟩
  go_wp2_with fail
  refine (bool.open_any W R _).mono ?_; rintro e w3 ⟨rfl, hwb, hmb, hb3, hs3⟩
  have hb3' := bcall hb2 hb3
  have hwi3 := hwi.below hb3
  have hmi3 := hmi.below hb3
  clear hwi hmi hb3 hb2 CK
  obtain ⟨bm, hbm⟩ : ∃ bm, bm = w1.heap.size := ⟨_, rfl⟩
  obtain ⟨br, hbr⟩ : ∃ br, br = w1.heap.size + 1 := ⟨_, rfl⟩
  obtain ⟨cm, hcm⟩ : ∃ cm, cm = w2.heap.size := ⟨_, rfl⟩
  obtain ⟨cr, hcr⟩ : ∃ cr, cr = w2.heap.size + 1 := ⟨_, rfl⟩
  rw [← hbr, ← hbm] at hwi3
  rw [← hbm] at hmi3
  rw [← hcr, ← hcm] at hwb
  rw [← hcm] at hmb
  rw [← hbr, ← hcr]
  obtain ⟨B, hB⟩ : ∃ B, B = w3.heap.size := ⟨_, rfl⟩
  have F3 := Lib.hid (show w1.heap.size ≤ bm ∧ bm < br ∧ br < cm ∧ cm < cr ∧ cr < B by omega)
  have HWI := Lib.hid hwi3
  have HMI := Lib.hid hmi3
  have HWB := Lib.hid hwb
  have HMB := Lib.hid hmb
  have HB3 := Lib.hid hb3'
  have HBB := Lib.hid hB
  clear hs2 hs3 hbm hbr hcm hcr hwi3 hmi3 hwb hmb hb3' hB
  go_wp2_with fail
  refine (span_any 0 e0 _ (by omega) (by omega)).mono ?_; rintro e w4 ⟨qv, rfl, hq4, hb4⟩
  have F4 : Full w1 w4 bm br cm cr B W R 0 0 0 (fun _ => none) 0 (fun _ => none) (.slice none 0 0) [] qv (zs (st0 n W).q) := by
    obtain ⟨o1, o2, o3, o4, o5⟩ := F3.out
    refine ⟨⟨o1, o2, o3, o4, o5, by rw [HBB.out]; exact hb4.size⟩, HWI.out.below hb4, HMI.out.below hb4, HWB.out.below hb4, HMB.out.below hb4, OwnI.nil _ _, ?_, (Apt.nil _).symm, bcall HB3.out hb4⟩
    rw [HQ0.out, HBB.out]
    exact OwnQ.of_own hq4
  obtain ⟨qp, qc, rfl, _⟩ := F4.que.form
  generalize (zs (st0 n W).q).length = q0l at F4 ⊢
  have F4h := Lib.hid F4
  clear F4 hq4 hb4 HB3 HWI HMI HWB HMB F3 HBB HQ0
  go_wp2_with fail
  go_loopw [8, 14, 44] (fun gv qv iv wr => ∃ (i : Nat) (s : St), i ≤ m ∧ iv = .int .i64 i ∧ Hid (SrepMath.Inv n W i s) ∧ Full w1 wr bm br cm cr B W R i i s.rf s.rh s.sf s.sh gv s.g qv (zs s.q) ∧ Hid (SrepMath.run l W R (fs.drop i) s = T)) (fun _ _ iv _ => m - (intOf iv).toNat)
  case atStart => exact ⟨0, st0 n W, Nat.zero_le _, rfl, I0.out, F4h.out, R0.out⟩
  case round =>
    clear F4h I0 R0
    obtain ⟨i, ⟨rf, rh, g, sf, sh, qq⟩, him, rfl, HINV, hfull, HRUN⟩ := hrel
    dsimp only at hfull
    by_cases hlt : i < m
    · have hil : i < fs.length := by rw [← HM.out]; exact hlt
      obtain ⟨b, off, rfl, hbw, hcell⟩ := fate_at HF.out (by omega)
      obtain ⟨x, hx⟩ : ∃ x, fs[i]? = some x := ⟨_, List.getElem?_eq_getElem hil⟩
      obtain ⟨e1, e2⟩ := hcell wr hfull.bel i x hx
      have HD := Lib.hid (show SrepMath.run l W R (x :: fs.drop (i + 1)) ⟨rf, rh, g, sf, sh, qq⟩ = T by rw [← AbpMath.drop_at hx]; exact HRUN.out)
      clear hcell hx hil HRUN
      cases qq with
      | nil =>
        have HE := Lib.hid (show (⟨rf, rh, g, sf, sh, []⟩ : St) = T from HD.out)
        obtain ⟨qp2, qc2, rfl, _⟩ := hfull.que.form
        have HFU := Lib.hid (hfull.alloc (.cells #[.bool x.there, .bool x.back] 32))
        have d0 := ((hfull.alloc (.cells #[.bool x.there, .bool x.back] 32)).si.cells).1
        clear HD hfull
        obtain ⟨x1, x2⟩ := x
        rw [show (zs []).length = 0 from rfl]
        go_wp2_with fail
        go_quiet (fail)
        go_wp2_with fail
        go_ret3
        refine ⟨_, by rw [← HE.out]; rfl, ?_, below_drewN HFU.out.bel _⟩
        rw [← HE.out]
        exact own_mono (HFU.out.own) (by have := HFU.out.ord; omega)
      | cons y qq =>
        have HD2 := Lib.hid (show SrepMath.run l W R (fs.drop (i + 1)) (SrepMath.step l W R x y qq ⟨rf, rh, g, sf, sh, y :: qq⟩) = T by rw [← HD.out]; rfl)
        have HINV2 := Lib.hid (show SrepMath.Inv n W (i + 1) (SrepMath.step l W R x y qq ⟨rf, rh, g, sf, sh, y :: qq⟩) by
          have h := HINV.out
          rw [HN.out] at h ⊢
          exact inv_step hW8 rfl h)
        have hyn : y < n := HINV.out.q y (List.mem_cons_self ..)
        have hql : (zs qq).length ≤ 2000 := by have := HINV.out.ql; rw [zs_len]; simp only [List.length_cons] at this; omega
        have hrf : rf ≤ 1600 := by have := HINV.out.rf; dsimp only at this; omega
        have hsf : sf ≤ 20 := by have := HINV.out.sf; dsimp only at this; omega
        have hgl : g.length ≤ 1600 := by have := HINV.out.gl; dsimp only at this; omega
        have HRN := Lib.hid (show ∀ j, rf + W ≤ j → rh j = none from HINV.out.rh)
        have HSN := Lib.hid (show ∀ j, sf + W ≤ j → sh j = none from fun j hj => by
          cases e : sh j with
          | none => rfl
          | some v => have := (HINV.out.sh j v e).2.1; dsimp only at this; omega)
        clear HINV HD
        rw [zs_cons] at hfull
        obtain ⟨qt, ht1, ht2, ht3, ht4⟩ := hfull.que.tail
        obtain ⟨qp2, qc2, rfl, hqi⟩ := hfull.que.form
        obtain ⟨qb, qo, rfl, hqb, hqc⟩ := hqi.2.2.2 (by simp)
        have hq0 : (wr.alloc (.cells #[.bool x.there, .bool x.back] 32)).cell? ⟨qb, qo, none⟩ = some (.int .i64 (y : Int)) := (((brefl wr).alloc (Nat.le_refl _) _).cell (p := ⟨qb, qo, none⟩) hqb).trans (hqc 0 (by simp))
        clear hqc hqb hqi
        have HR1 := Lib.hid ((hfull.rnd x.there x.back).tail ht3 (fun w' hk => ht4 w' (fun g hg => (hk g hg).trans (((brefl wr).alloc (Nat.le_refl _) _).block g ((hfull.que.lt g hg).2)))))
        have hqlen : ((y : Int) :: zs qq).length = (zs qq).length + 1 := rfl
        rw [hqlen] at ht1 ht2 ⊢
        clear hqlen ht3 ht4 hfull
        obtain ⟨x1, x2⟩ := x
        dsimp only at HR1 hq0 e1 e2
        obtain ⟨f1, f2⟩ := HR1.out.cells
        have HQL := Lib.hid hql
        generalize (zs qq).length = ql at hql ht1 ht2 ⊢
        cases x1 with
        | true =>
          have HST := Lib.hid (SrepMath.step_lost l W R (f := ⟨true, x2⟩) y qq rf rh g sf sh (y :: qq) rfl)
          have HLQ := Lib.hid (show (zs qq).length ≤ 2000 from HQL.out)
          have HZQ := Lib.hid (show zs qq = zs qq from rfl)
          have HD3 := Lib.hid (show SrepMath.run l W R (fs.drop (i + 1)) ⟨rf, rh, g, sf, sh, back sh y qq⟩ = T by rw [← HST.out]; exact HD2.out)
          have HI3 := Lib.hid (show SrepMath.Inv n W (i + 1) ⟨rf, rh, g, sf, sh, back sh y qq⟩ by rw [← HST.out]; exact HINV2.out)
          clear HD2 HINV2 HST
          cases hsy : (sh y).getD false with
          | true =>
            have HZ := Lib.hid (show zs (back sh y (qq)) = zs qq from (congrArg zs (back_yes hsy)).trans HZQ.out)
            have HSY := Lib.hid hsy
            clear hsy HZQ
            obtain ⟨_, _, _, c3, _⟩ := HR1.out.full.si.cells
            have hrun := HR1.out.look0 (y := y) (by omega) HSY.out
            -- LK
            go_wp2_with fail
            go_roundw
            case rel => exact ⟨i + 1, ⟨rf, rh, g, sf, sh, back sh y qq⟩, by omega, by first | rfl | go_num, HI3.out, by
              show Full w1 _ bm br cm cr B W R (i + 1) (i + 1) _ _ _ _ _ _ _ (zs (back sh y (qq)))
              rw [HZ.out]; exact HR1.out.full.mono (by omega) (by omega), HD3.out⟩
            case measure => simp [intOf]; omega
          | false =>
            have HZ := Lib.hid (show zs (back sh y (qq)) = zs qq ++ [(y : Int)] by rw [back_no hsy, zs_append, HZQ.out]; rfl)
            have HSY := Lib.hid hsy
            have hyw : (Lit.int .i64 (y : Int)).wf = true := MapF.wfN (by omega)
            clear hsy HZQ
            obtain ⟨_, _, _, c3, _⟩ := HR1.out.full.si.cells
            have hrun := HR1.out.look0 (y := y) (by omega) HSY.out
            -- LB
            go_wp2_with (
                         at_builtin
                         refine wp_appQ rfl (.tmp 133) (.tmp 135) rfl B _ (zs qq) (some ⟨wr.heap.size + 1, 0, none⟩) 1 1 [(y : Int)] rfl (HR1.out.alloc _).full.que rfl rfl (by have q := Ints.one (wr.alloc (.cells #[.bool true, .bool x2] 32)) (y : Int) hyw; rw [aszS] at q; exact q) (by rw [List.length_singleton]; have := HLQ.out; omega) (Nat.le_trans HR1.out.full.ord.2.2.2.2.2 (by simp)) ?_
                         intro qv9 w20 hq20 hg20 hat20
                         have HR20 := Lib.hid ((HR1.out.alloc _).full.app_q hq20 hg20 hat20)
                         clear hq20 hg20 hat20)
            go_roundw
            case rel => exact ⟨i + 1, ⟨rf, rh, g, sf, sh, back sh y qq⟩, by omega, by first | rfl | go_num, HI3.out, by
              show Full w1 _ bm br cm cr B W R (i + 1) (i + 1) _ _ _ _ _ _ _ (zs (back sh y (qq)))
              rw [HZ.out]; exact HR20.out.mono (by omega) (by omega), HD3.out⟩
            case measure => simp [intOf]; omega
        | false =>
          cases x2 with
          | true =>
            obtain ⟨P, hP⟩ : ∃ P, fnd R y W rf = P := ⟨_, rfl⟩
            have FI := Lib.hid (fun w' (h : int.Win w' br bm rf W R) => int.find_any br bm rf W R y w' h (by omega) hW8 hR2 hR16 (by omega) P hP)
            obtain ⟨b1, off1, rfl, hb1w, hc1⟩ := HI.out.2.2.2 (by rw [← HN.out]; omega)
            cases P with
            | none =>
              have HRC := Lib.hid (show rec l W R y rf rh = rh from rec_no hP)
              clear hP hc1
              go_wp2_with fail
              refine (FI.out _ HR1.out.full.ri).mono ?_; rintro e w2 ⟨rfl, hb2⟩
              have HR2 := Lib.hid (HR1.out.below hb2)
              clear hb2 f1 f2 hq0 e1 e2
              simp only [Option.getD_none, Option.isSome_none]
              obtain ⟨_, f22⟩ := HR2.out.cells
              go_wp2_with fail
              have HNONE := Lib.hid (show ∀ j, rf + W ≤ j → rh j = none from HRN.out)
              obtain ⟨Lp, Fp, hp⟩ : ∃ Lp Fp, pas (rh) W rf = (Lp, Fp) := ⟨_, _, rfl⟩
              obtain ⟨hp1, hp2, hp3⟩ : rf ≤ Fp ∧ Fp ≤ rf + W ∧ Lp.length ≤ 8 := by have := pas_le (rh) W rf; rw [hp] at this; dsimp only at this; omega
              have HP := Lib.hid hp
              refine (int.pass_any br bm rf W R (i) (rh) _ HR2.out.full.ri HR2.out.full.rm (by omega) hW8 HNONE.out Lp Fp hp).mono ?_; rintro e w4 ⟨v4, rfl, hv4, hg4, hw4⟩
              have HR4 := Lib.hid (HR2.out.pass_r hw4 hg4)
              obtain ⟨pp, pc, rfl, hpi⟩ := hv4.form
              have HPI := Lib.hid hpi
              have hbs4 : B ≤ w4.heap.size := HR4.out.full.ord.2.2.2.2.2
              obtain ⟨lp, hlp⟩ : ∃ lp, Lp.length = lp := ⟨_, rfl⟩
              rw [hlp] at hp3 ⊢
              have HLP := Lib.hid hlp.symm
              clear hp hlp hv4 hg4 hw4 hpi HNONE
              have HST := Lib.hid (SrepMath.step_back l W R (f := ⟨false, true⟩) y qq rf rh g sf sh (y :: qq) rfl rfl HRC.out HP.out)
              have HLQ := Lib.hid (show (zs qq).length ≤ 2000 from HQL.out)
              have HZQ := Lib.hid (show zs qq = zs qq from rfl)
              have HD3 := Lib.hid (show SrepMath.run l W R (fs.drop (i + 1)) ⟨Fp, rh, g ++ Lp, sf, sh, back sh y qq⟩ = T by rw [← HST.out]; exact HD2.out)
              have HI3 := Lib.hid (show SrepMath.Inv n W (i + 1) ⟨Fp, rh, g ++ Lp, sf, sh, back sh y qq⟩ by rw [← HST.out]; exact HINV2.out)
              clear HD2 HINV2 HST
              cases hsy : (sh y).getD false with
              | true =>
                have HZ := Lib.hid (show zs (back sh y (qq)) = zs qq from (congrArg zs (back_yes hsy)).trans HZQ.out)
                have HSY := Lib.hid hsy
                clear hsy HZQ

                -- bnK
                go_wp2_with (
                             at_builtin
                             refine wp_app rfl (.tmp 75) (.tmp 77) rfl B _ g pp pc lp Lp rfl HR4.out.full.own rfl HLP.out HPI.out (by rw [← HLP.out]; omega) hbs4 ?_
                             intro gv2 w5 hown5 hg5 hat5
                             have HR5 := Lib.hid (HR4.out.app_g hown5 hg5 hat5)
                             obtain ⟨f51, f52⟩ := HR5.out.cells
                             clear hown5 hg5 hat5
                             obtain ⟨_, _, _, c3, _⟩ := HR5.out.full.si.cells
                             have hrun := HR5.out.look0 (y := y) (by omega) HSY.out)
                go_roundw
                case rel => exact ⟨i + 1, ⟨Fp, rh, g ++ Lp, sf, sh, back sh y qq⟩, by omega, by first | rfl | go_num, HI3.out, by
                  show Full w1 _ bm br cm cr B W R (i + 1) (i + 1) _ _ _ _ _ _ _ (zs (back sh y (qq)))
                  rw [HZ.out]; exact HR5.out.full.mono (by omega) (by omega), HD3.out⟩
                case measure => simp [intOf]; omega
              | false =>
                have HZ := Lib.hid (show zs (back sh y (qq)) = zs qq ++ [(y : Int)] by rw [back_no hsy, zs_append, HZQ.out]; rfl)
                have HSY := Lib.hid hsy
                have hyw : (Lit.int .i64 (y : Int)).wf = true := MapF.wfN (by omega)
                clear hsy HZQ

                -- bnB
                go_wp2_with (first
                             | (at_builtin
                                refine wp_app rfl (.tmp 75) (.tmp 77) rfl B _ g pp pc lp Lp rfl HR4.out.full.own rfl HLP.out HPI.out (by rw [← HLP.out]; omega) hbs4 ?_
                                intro gv2 w5 hown5 hg5 hat5
                                have HR5 := Lib.hid (HR4.out.app_g hown5 hg5 hat5)
                                obtain ⟨f51, f52⟩ := HR5.out.cells
                                clear hown5 hg5 hat5
                                obtain ⟨_, _, _, c3, _⟩ := HR5.out.full.si.cells
                                have hrun := HR5.out.look0 (y := y) (by omega) HSY.out)
                             | (at_builtin
                                refine wp_appQ rfl (.tmp 133) (.tmp 135) rfl B _ (zs qq) (some ⟨w5.heap.size, 0, none⟩) 1 1 [(y : Int)] rfl (HR5.out.alloc _).full.que rfl rfl (Ints.one w5 _ hyw) (by rw [List.length_singleton]; have := HLQ.out; omega) (Nat.le_trans HR5.out.full.ord.2.2.2.2.2 (by simp)) ?_
                                intro qv9 w20 hq20 hg20 hat20
                                have HR20 := Lib.hid ((HR5.out.alloc _).full.app_q hq20 hg20 hat20)
                                clear hq20 hg20 hat20))
                go_roundw
                case rel => exact ⟨i + 1, ⟨Fp, rh, g ++ Lp, sf, sh, back sh y qq⟩, by omega, by first | rfl | go_num, HI3.out, by
                  show Full w1 _ bm br cm cr B W R (i + 1) (i + 1) _ _ _ _ _ _ _ (zs (back sh y (qq)))
                  rw [HZ.out]; exact HR20.out.mono (by omega) (by omega), HD3.out⟩
                case measure => simp [intOf]; omega
            | some a0 =>
              have ha0 : a0 < rf + W := (fnd_some hP).2.1
              have HRC := Lib.hid (show rec l W R y rf rh = upd rh a0 (l[y]?.getD 0) from rec_yes hP)
              clear hP
              have hyw := HI.out.2.2.1 y
              have hd := hc1 y (by rw [← HN.out]; exact hyn)
              obtain ⟨z, hz⟩ : ∃ z, l[y]?.getD 0 = z := ⟨_, rfl⟩
              rw [hz] at hyw hd HRC
              clear hz hc1
              have HNONE := Lib.hid (show ∀ j, rf + W ≤ j → upd rh a0 z j = none from fun j hj => by rw [upd_other _ _ (by omega)]; exact HRN.out j hj)
              go_wp2_with fail
              refine (FI.out _ HR1.out.full.ri).mono ?_; rintro e w2 ⟨rfl, hb2⟩
              have HR2 := Lib.hid (HR1.out.below hb2)
              clear hb2 f1 f2 hq0 e1 e2
              simp only [Option.getD_some, Option.isSome_some]
              have g1 := (HR2.out.full.bel.cell (p := ⟨b1, off1 + y, none⟩) hb1w).trans hd
              obtain ⟨_, _, _, r3, _⟩ := HR2.out.full.ri.cells
              obtain ⟨w3, hput', hm3, hg3⟩ := HR2.out.drew.full.rm.store (j := a0) (by omega) (by omega) z hyw
              have hput : (Instr.mapUpdate 44 (.map (some bm)) (.int .i64 (a0 : Int)) (.int .i64 z)).run Try.prog w2.drew = .ok () w3 := hput'
              have HR3 := Lib.hid (HR2.out.drew.put_r hm3 hg3)
              have g4 := (HR3.out.full.bel.cell (p := ⟨b1, off1 + y, none⟩) hb1w).trans hd
              have r4 := HR3.out.full.ri.cells.2.2.2.1
              clear hd hput' hm3 hg3
              go_wp2_with fail
              go_region_held3 (fun W' => W'.cell? ⟨b1, off1 + y, none⟩ = some (.int .i64 z) ∧ W'.cell? ⟨br, 3, none⟩ = some (.map (some bm)))
                (first
                  | exact ⟨g1, r3⟩
                  | exact ⟨g4, r4⟩
                  | go_keep)
                (first
                  | fail)
              clear g1 r3 g4 r4 hput
              go_wp2_with fail
              obtain ⟨Lp, Fp, hp⟩ : ∃ Lp Fp, pas ((upd rh a0 z)) W rf = (Lp, Fp) := ⟨_, _, rfl⟩
              obtain ⟨hp1, hp2, hp3⟩ : rf ≤ Fp ∧ Fp ≤ rf + W ∧ Lp.length ≤ 8 := by have := pas_le ((upd rh a0 z)) W rf; rw [hp] at this; dsimp only at this; omega
              have HP := Lib.hid hp
              refine (int.pass_any br bm rf W R (i + 1) ((upd rh a0 z)) _ HR3.out.full.ri HR3.out.full.rm (by omega) hW8 HNONE.out Lp Fp hp).mono ?_; rintro e w4 ⟨v4, rfl, hv4, hg4, hw4⟩
              have HR4 := Lib.hid (HR3.out.pass_r hw4 hg4)
              obtain ⟨pp, pc, rfl, hpi⟩ := hv4.form
              have HPI := Lib.hid hpi
              have hbs4 : B ≤ w4.heap.size := HR4.out.full.ord.2.2.2.2.2
              obtain ⟨lp, hlp⟩ : ∃ lp, Lp.length = lp := ⟨_, rfl⟩
              rw [hlp] at hp3 ⊢
              have HLP := Lib.hid hlp.symm
              clear hp hlp hv4 hg4 hw4 hpi HNONE
              have HST := Lib.hid (SrepMath.step_back l W R (f := ⟨false, true⟩) y qq rf rh g sf sh (y :: qq) rfl rfl HRC.out HP.out)
              have HLQ := Lib.hid (show (zs qq).length ≤ 2000 from HQL.out)
              have HZQ := Lib.hid (show zs qq = zs qq from rfl)
              have HD3 := Lib.hid (show SrepMath.run l W R (fs.drop (i + 1)) ⟨Fp, (upd rh a0 z), g ++ Lp, sf, sh, back sh y qq⟩ = T by rw [← HST.out]; exact HD2.out)
              have HI3 := Lib.hid (show SrepMath.Inv n W (i + 1) ⟨Fp, (upd rh a0 z), g ++ Lp, sf, sh, back sh y qq⟩ by rw [← HST.out]; exact HINV2.out)
              clear HD2 HINV2 HST
              cases hsy : (sh y).getD false with
              | true =>
                have HZ := Lib.hid (show zs (back sh y (qq)) = zs qq from (congrArg zs (back_yes hsy)).trans HZQ.out)
                have HSY := Lib.hid hsy
                clear hsy HZQ

                -- byK
                go_wp2_with (
                             at_builtin
                             refine wp_app rfl (.tmp 75) (.tmp 77) rfl B _ g pp pc lp Lp rfl HR4.out.full.own rfl HLP.out HPI.out (by rw [← HLP.out]; omega) hbs4 ?_
                             intro gv2 w5 hown5 hg5 hat5
                             have HR5 := Lib.hid (HR4.out.app_g hown5 hg5 hat5)
                             obtain ⟨f51, f52⟩ := HR5.out.cells
                             clear hown5 hg5 hat5
                             obtain ⟨_, _, _, c3, _⟩ := HR5.out.full.si.cells
                             have hrun := HR5.out.look0 (y := y) (by omega) HSY.out)
                go_roundw
                case rel => exact ⟨i + 1, ⟨Fp, (upd rh a0 z), g ++ Lp, sf, sh, back sh y qq⟩, by omega, by first | rfl | go_num, HI3.out, by
                  show Full w1 _ bm br cm cr B W R (i + 1) (i + 1) _ _ _ _ _ _ _ (zs (back sh y (qq)))
                  rw [HZ.out]; exact HR5.out.full.mono (by omega) (by omega), HD3.out⟩
                case measure => simp [intOf]; omega
              | false =>
                have HZ := Lib.hid (show zs (back sh y (qq)) = zs qq ++ [(y : Int)] by rw [back_no hsy, zs_append, HZQ.out]; rfl)
                have HSY := Lib.hid hsy
                have hyw : (Lit.int .i64 (y : Int)).wf = true := MapF.wfN (by omega)
                clear hsy HZQ

                -- byB
                go_wp2_with (first
                             | (at_builtin
                                refine wp_app rfl (.tmp 75) (.tmp 77) rfl B _ g pp pc lp Lp rfl HR4.out.full.own rfl HLP.out HPI.out (by rw [← HLP.out]; omega) hbs4 ?_
                                intro gv2 w5 hown5 hg5 hat5
                                have HR5 := Lib.hid (HR4.out.app_g hown5 hg5 hat5)
                                obtain ⟨f51, f52⟩ := HR5.out.cells
                                clear hown5 hg5 hat5
                                obtain ⟨_, _, _, c3, _⟩ := HR5.out.full.si.cells
                                have hrun := HR5.out.look0 (y := y) (by omega) HSY.out)
                             | (at_builtin
                                refine wp_appQ rfl (.tmp 133) (.tmp 135) rfl B _ (zs qq) (some ⟨w5.heap.size, 0, none⟩) 1 1 [(y : Int)] rfl (HR5.out.alloc _).full.que rfl rfl (Ints.one w5 _ hyw) (by rw [List.length_singleton]; have := HLQ.out; omega) (Nat.le_trans HR5.out.full.ord.2.2.2.2.2 (by simp)) ?_
                                intro qv9 w20 hq20 hg20 hat20
                                have HR20 := Lib.hid ((HR5.out.alloc _).full.app_q hq20 hg20 hat20)
                                clear hq20 hg20 hat20))
                go_roundw
                case rel => exact ⟨i + 1, ⟨Fp, (upd rh a0 z), g ++ Lp, sf, sh, back sh y qq⟩, by omega, by first | rfl | go_num, HI3.out, by
                  show Full w1 _ bm br cm cr B W R (i + 1) (i + 1) _ _ _ _ _ _ _ (zs (back sh y (qq)))
                  rw [HZ.out]; exact HR20.out.mono (by omega) (by omega), HD3.out⟩
                case measure => simp [intOf]; omega
          | false =>
            obtain ⟨P, hP⟩ : ∃ P, fnd R y W rf = P := ⟨_, rfl⟩
            have FI := Lib.hid (fun w' (h : int.Win w' br bm rf W R) => int.find_any br bm rf W R y w' h (by omega) hW8 hR2 hR16 (by omega) P hP)
            obtain ⟨b1, off1, rfl, hb1w, hc1⟩ := HI.out.2.2.2 (by rw [← HN.out]; omega)
            cases P with
            | none =>
              have HRC := Lib.hid (show rec l W R y rf rh = rh from rec_no hP)
              clear hP hc1
              go_wp2_with fail
              refine (FI.out _ HR1.out.full.ri).mono ?_; rintro e w2 ⟨rfl, hb2⟩
              have HR2 := Lib.hid (HR1.out.below hb2)
              clear hb2 f1 f2 hq0 e1 e2
              simp only [Option.getD_none, Option.isSome_none]
              obtain ⟨_, f22⟩ := HR2.out.cells
              go_wp2_with fail
              have HNONE := Lib.hid (show ∀ j, rf + W ≤ j → rh j = none from HRN.out)
              obtain ⟨Lp, Fp, hp⟩ : ∃ Lp Fp, pas (rh) W rf = (Lp, Fp) := ⟨_, _, rfl⟩
              obtain ⟨hp1, hp2, hp3⟩ : rf ≤ Fp ∧ Fp ≤ rf + W ∧ Lp.length ≤ 8 := by have := pas_le (rh) W rf; rw [hp] at this; dsimp only at this; omega
              have HP := Lib.hid hp
              refine (int.pass_any br bm rf W R (i) (rh) _ HR2.out.full.ri HR2.out.full.rm (by omega) hW8 HNONE.out Lp Fp hp).mono ?_; rintro e w4 ⟨v4, rfl, hv4, hg4, hw4⟩
              have HR4 := Lib.hid (HR2.out.pass_r hw4 hg4)
              obtain ⟨pp, pc, rfl, hpi⟩ := hv4.form
              have HPI := Lib.hid hpi
              have hbs4 : B ≤ w4.heap.size := HR4.out.full.ord.2.2.2.2.2
              obtain ⟨lp, hlp⟩ : ∃ lp, Lp.length = lp := ⟨_, rfl⟩
              rw [hlp] at hp3 ⊢
              have HLP := Lib.hid hlp.symm
              clear hp hlp hv4 hg4 hw4 hpi HNONE
              go_wp2_with (
                           at_builtin
                           refine wp_app rfl (.tmp 75) (.tmp 77) rfl B _ g pp pc lp Lp rfl HR4.out.full.own rfl HLP.out HPI.out (by rw [← HLP.out]; omega) hbs4 ?_
                           intro gv2 w5 hown5 hg5 hat5
                           have HR5 := Lib.hid (HR4.out.app_g hown5 hg5 hat5)
                           obtain ⟨f51, f52⟩ := HR5.out.cells
                           clear hown5 hg5 hat5)
              clear f51 f52
              obtain ⟨Q, hQ⟩ : ∃ Q, fnd R y W sf = Q := ⟨_, rfl⟩
              refine (bool.find_any cr cm sf W R y _ HR5.out.full.si (by omega) hW8 hR2 hR16 (by omega) Q hQ).mono ?_; rintro e w6 ⟨rfl, hb6⟩
              have HR6 := Lib.hid (HR5.out.below hb6)
              clear hb6
              cases Q with
              | none =>
                have HSD := Lib.hid (show SrepMath.snd l.length W R y sf sh = sh from snd_no hQ)
                simp only [Option.getD_none, Option.isSome_none]
                obtain ⟨s0, _, _, s3, _⟩ := HR6.out.full.si.cells
                clear hQ HR5
                obtain ⟨bh, hbh⟩ : ∃ bh, sf + W = bh := ⟨_, rfl⟩
                have hbI : (sf : Int) + (W : Int) = (bh : Int) := by omega
                have HBH := Lib.hid hbh
                go_wp2_with fail
                have HSN2 := Lib.hid (show ∀ j, sf + W ≤ j → sh j = none from HSN.out)
                obtain ⟨L2, F2, hp2'⟩ : ∃ L2 F2, pas sh W sf = (L2, F2) := ⟨_, _, rfl⟩
                obtain ⟨hq1, hq2⟩ : sf ≤ F2 ∧ F2 ≤ sf + W := by have := pas_le sh W sf; rw [hp2'] at this; dsimp only at this; omega
                refine (bool.pass_any cr cm sf W R (i) sh _ HR6.out.full.si HR6.out.full.sm (by omega) hW8 HSN2.out L2 F2 hp2').mono ?_; rintro e w8 ⟨v8, rfl, _, hg8, hw8⟩
                have HR8 := Lib.hid (HR6.out.pass_s hw8 hg8)
                have HP2 := Lib.hid hp2'
                obtain ⟨s80, _, _, s83, _⟩ := HR8.out.full.si.cells
                obtain ⟨fw, hfw⟩ : ∃ fw, F2 + W = fw := ⟨_, rfl⟩
                have hfI : (F2 : Int) + (W : Int) = (fw : Int) := by omega
                obtain ⟨ee, hee⟩ : ∃ ee, min (F2 + W) n = ee := ⟨_, rfl⟩
                have heb : ee ≤ 100 := by omega
                have mi1 : (if (n : Int) < (fw : Int) then (n : Int) else (fw : Int)) = (ee : Int) := by split <;> omega
                have mi2 : (if n < fw then (n : Int) else (fw : Int)) = (ee : Int) := by split <;> omega
                have HEE := Lib.hid (show min (F2 + W) l.length = ee by rw [← HN.out]; exact hee)
                have hbb : bh ≤ 100 := by omega
                clear hp2' hfw hee HSN2 hg8 hw8
                go_wp2_with fail
                refine (span_any bh ee _ (by omega) (by omega)).mono ?_; rintro e w9 ⟨v9, rfl, hv9, hb9⟩
                have HR9 := Lib.hid (HR8.out.below hb9)
                obtain ⟨sp, sc, rfl, hsi⟩ := hv9.form
                have HSI := Lib.hid hsi
                have hbs9 : B ≤ w9.heap.size := HR9.out.full.ord.2.2.2.2.2
                have hsl : (zs (spn bh ee)).length ≤ 100 := by rw [zs_len, spn_len]; omega
                obtain ⟨sl, hsl2⟩ : ∃ sl, (zs (spn bh ee)).length = sl := ⟨_, rfl⟩
                rw [hsl2] at hsl ⊢
                have HSL := Lib.hid hsl2.symm
                clear hv9 hb9 hsi hsl2
                have HST := Lib.hid (SrepMath.step_fine l W R (f := ⟨false, false⟩) y qq rf rh g sf sh (y :: qq) rfl rfl HRC.out HP.out HSD.out HP2.out HBH.out HEE.out)
                have HLQ := Lib.hid (show (zs qq ++ zs (spn bh ee)).length ≤ 4000 by rw [List.length_append, ← HSL.out]; have := HQL.out; omega)
                have HZQ := Lib.hid (show zs (qq ++ spn bh ee) = zs qq ++ zs (spn bh ee) from zs_append _ _)
                have HD3 := Lib.hid (show SrepMath.run l W R (fs.drop (i + 1)) ⟨Fp, rh, g ++ Lp, F2, sh, back sh y (qq ++ spn bh ee)⟩ = T by rw [← HST.out]; exact HD2.out)
                have HI3 := Lib.hid (show SrepMath.Inv n W (i + 1) ⟨Fp, rh, g ++ Lp, F2, sh, back sh y (qq ++ spn bh ee)⟩ by rw [← HST.out]; exact HINV2.out)
                clear HD2 HINV2 HST
                cases hsy : (sh y).getD false with
                | true =>
                  have HZ := Lib.hid (show zs (back sh y (qq ++ spn bh ee)) = zs qq ++ zs (spn bh ee) from (congrArg zs (back_yes hsy)).trans HZQ.out)
                  have HSY := Lib.hid hsy
                  clear hsy HZQ

                  -- fnnK
                  go_wp2_with (
                               at_builtin
                               refine wp_appQ rfl (.tmp 113) (.tmp 124) rfl B _ (zs qq) sp sc sl (zs (spn bh ee)) rfl HR9.out.full.que rfl HSL.out HSI.out (by rw [← HSL.out]; have := HQL.out; omega) hbs9 ?_
                               intro qv3 w10 hq10 hg10 hat10
                               have HR10 := Lib.hid (HR9.out.app_q hq10 hg10 hat10)
                               clear hq10 hg10 hat10
                               obtain ⟨_, _, _, c3, _⟩ := HR10.out.full.si.cells
                               have hrun := HR10.out.look0 (y := y) (by omega) HSY.out)
                  go_roundw
                  case rel => exact ⟨i + 1, ⟨Fp, rh, g ++ Lp, F2, sh, back sh y (qq ++ spn bh ee)⟩, by omega, by first | rfl | go_num, HI3.out, by
                    show Full w1 _ bm br cm cr B W R (i + 1) (i + 1) _ _ _ _ _ _ _ (zs (back sh y (qq ++ spn bh ee)))
                    rw [HZ.out]; exact HR10.out.full.mono (by omega) (by omega), HD3.out⟩
                  case measure => simp [intOf]; omega
                | false =>
                  have HZ := Lib.hid (show zs (back sh y (qq ++ spn bh ee)) = zs qq ++ zs (spn bh ee) ++ [(y : Int)] by rw [back_no hsy, zs_append, HZQ.out]; rfl)
                  have HSY := Lib.hid hsy
                  have hyw : (Lit.int .i64 (y : Int)).wf = true := MapF.wfN (by omega)
                  clear hsy HZQ

                  -- fnnB
                  go_wp2_with (first
                               | (at_builtin
                                  refine wp_appQ rfl (.tmp 113) (.tmp 124) rfl B _ (zs qq) sp sc sl (zs (spn bh ee)) rfl HR9.out.full.que rfl HSL.out HSI.out (by rw [← HSL.out]; have := HQL.out; omega) hbs9 ?_
                                  intro qv3 w10 hq10 hg10 hat10
                                  have HR10 := Lib.hid (HR9.out.app_q hq10 hg10 hat10)
                                  clear hq10 hg10 hat10
                                  obtain ⟨_, _, _, c3, _⟩ := HR10.out.full.si.cells
                                  have hrun := HR10.out.look0 (y := y) (by omega) HSY.out)
                               | (at_builtin
                                  refine wp_appQ rfl (.tmp 133) (.tmp 135) rfl B _ (zs qq ++ zs (spn bh ee)) (some ⟨w10.heap.size, 0, none⟩) 1 1 [(y : Int)] rfl (HR10.out.alloc _).full.que rfl rfl (Ints.one w10 _ hyw) (by rw [List.length_singleton]; have := HLQ.out; omega) (Nat.le_trans HR10.out.full.ord.2.2.2.2.2 (by simp)) ?_
                                  intro qv9 w20 hq20 hg20 hat20
                                  have HR20 := Lib.hid ((HR10.out.alloc _).full.app_q hq20 hg20 hat20)
                                  clear hq20 hg20 hat20))
                  go_roundw
                  case rel => exact ⟨i + 1, ⟨Fp, rh, g ++ Lp, F2, sh, back sh y (qq ++ spn bh ee)⟩, by omega, by first | rfl | go_num, HI3.out, by
                    show Full w1 _ bm br cm cr B W R (i + 1) (i + 1) _ _ _ _ _ _ _ (zs (back sh y (qq ++ spn bh ee)))
                    rw [HZ.out]; exact HR20.out.mono (by omega) (by omega), HD3.out⟩
                  case measure => simp [intOf]; omega
              | some a =>
                have ha : a < sf + W := (fnd_some hQ).2.1
                have ha2 : sf ≤ a := (fnd_some hQ).1
                obtain ⟨s0, _, _, s3, _⟩ := HR6.out.full.si.cells
                obtain ⟨bh, hbh⟩ : ∃ bh, sf + W = bh := ⟨_, rfl⟩
                have hbI : (sf : Int) + (W : Int) = (bh : Int) := by omega
                have HBH := Lib.hid hbh
                simp only [Option.getD_some, Option.isSome_some]
                by_cases han : a < n
                · have t9 : decide ((a : Int) < (n : Int)) = true := decide_eq_true (by omega)
                  have HSD := Lib.hid (show SrepMath.snd l.length W R y sf sh = upd sh a true from snd_yes hQ (by rw [← HN.out]; exact han))
                  clear hQ HR5
                  go_wp2_with (at_mapUpdate
                               refine wp_put (E := EB) rfl (.tmp 103) (.tmp 104) (.const (.bool true)) rfl HR6.out.full.sm (by omega) a (by omega) true trivial rfl rfl rfl ?_
                               intro w7 hm7 hg7
                               have HR7 := Lib.hid (HR6.out.put_s hm7 hg7)
                               obtain ⟨s70, _, _, s73, _⟩ := HR7.out.full.si.cells
                               clear hm7 hg7)
                  have HSN2 := Lib.hid (show ∀ j, sf + W ≤ j → upd sh a true j = none from fun j hj => by rw [upd_other _ _ (by omega)]; exact HSN.out j hj)
                  obtain ⟨L2, F2, hp2'⟩ : ∃ L2 F2, pas (upd sh a true) W sf = (L2, F2) := ⟨_, _, rfl⟩
                  obtain ⟨hq1, hq2⟩ : sf ≤ F2 ∧ F2 ≤ sf + W := by have := pas_le (upd sh a true) W sf; rw [hp2'] at this; dsimp only at this; omega
                  refine (bool.pass_any cr cm sf W R (i + 1) (upd sh a true) _ HR7.out.full.si HR7.out.full.sm (by omega) hW8 HSN2.out L2 F2 hp2').mono ?_; rintro e w8 ⟨v8, rfl, _, hg8, hw8⟩
                  have HR8 := Lib.hid (HR7.out.pass_s hw8 hg8)
                  have HP2 := Lib.hid hp2'
                  obtain ⟨s80, _, _, s83, _⟩ := HR8.out.full.si.cells
                  obtain ⟨fw, hfw⟩ : ∃ fw, F2 + W = fw := ⟨_, rfl⟩
                  have hfI : (F2 : Int) + (W : Int) = (fw : Int) := by omega
                  obtain ⟨ee, hee⟩ : ∃ ee, min (F2 + W) n = ee := ⟨_, rfl⟩
                  have heb : ee ≤ 100 := by omega
                  have mi1 : (if (n : Int) < (fw : Int) then (n : Int) else (fw : Int)) = (ee : Int) := by split <;> omega
                  have mi2 : (if n < fw then (n : Int) else (fw : Int)) = (ee : Int) := by split <;> omega
                  have HEE := Lib.hid (show min (F2 + W) l.length = ee by rw [← HN.out]; exact hee)
                  have hbb : bh ≤ 100 := by omega
                  clear hp2' hfw hee HSN2 hg8 hw8
                  go_wp2_with fail
                  refine (span_any bh ee _ (by omega) (by omega)).mono ?_; rintro e w9 ⟨v9, rfl, hv9, hb9⟩
                  have HR9 := Lib.hid (HR8.out.below hb9)
                  obtain ⟨sp, sc, rfl, hsi⟩ := hv9.form
                  have HSI := Lib.hid hsi
                  have hbs9 : B ≤ w9.heap.size := HR9.out.full.ord.2.2.2.2.2
                  have hsl : (zs (spn bh ee)).length ≤ 100 := by rw [zs_len, spn_len]; omega
                  obtain ⟨sl, hsl2⟩ : ∃ sl, (zs (spn bh ee)).length = sl := ⟨_, rfl⟩
                  rw [hsl2] at hsl ⊢
                  have HSL := Lib.hid hsl2.symm
                  clear hv9 hb9 hsi hsl2
                  have HST := Lib.hid (SrepMath.step_fine l W R (f := ⟨false, false⟩) y qq rf rh g sf sh (y :: qq) rfl rfl HRC.out HP.out HSD.out HP2.out HBH.out HEE.out)
                  have HLQ := Lib.hid (show (zs qq ++ zs (spn bh ee)).length ≤ 4000 by rw [List.length_append, ← HSL.out]; have := HQL.out; omega)
                  have HZQ := Lib.hid (show zs (qq ++ spn bh ee) = zs qq ++ zs (spn bh ee) from zs_append _ _)
                  have HD3 := Lib.hid (show SrepMath.run l W R (fs.drop (i + 1)) ⟨Fp, rh, g ++ Lp, F2, (upd sh a true), back (upd sh a true) y (qq ++ spn bh ee)⟩ = T by rw [← HST.out]; exact HD2.out)
                  have HI3 := Lib.hid (show SrepMath.Inv n W (i + 1) ⟨Fp, rh, g ++ Lp, F2, (upd sh a true), back (upd sh a true) y (qq ++ spn bh ee)⟩ by rw [← HST.out]; exact HINV2.out)
                  clear HD2 HINV2 HST
                  cases hsy : ((upd sh a true) y).getD false with
                  | true =>
                    have HZ := Lib.hid (show zs (back (upd sh a true) y (qq ++ spn bh ee)) = zs qq ++ zs (spn bh ee) from (congrArg zs (back_yes hsy)).trans HZQ.out)
                    have HSY := Lib.hid hsy
                    clear hsy HZQ

                    -- fnyK
                    go_wp2_with (
                                 at_builtin
                                 refine wp_appQ rfl (.tmp 113) (.tmp 124) rfl B _ (zs qq) sp sc sl (zs (spn bh ee)) rfl HR9.out.full.que rfl HSL.out HSI.out (by rw [← HSL.out]; have := HQL.out; omega) hbs9 ?_
                                 intro qv3 w10 hq10 hg10 hat10
                                 have HR10 := Lib.hid (HR9.out.app_q hq10 hg10 hat10)
                                 clear hq10 hg10 hat10
                                 obtain ⟨_, _, _, c3, _⟩ := HR10.out.full.si.cells
                                 have hrun := HR10.out.look0 (y := y) (by omega) HSY.out)
                    go_roundw
                    case rel => exact ⟨i + 1, ⟨Fp, rh, g ++ Lp, F2, (upd sh a true), back (upd sh a true) y (qq ++ spn bh ee)⟩, by omega, by first | rfl | go_num, HI3.out, by
                      show Full w1 _ bm br cm cr B W R (i + 1) (i + 1) _ _ _ _ _ _ _ (zs (back (upd sh a true) y (qq ++ spn bh ee)))
                      rw [HZ.out]; exact HR10.out.full.mono (by omega) (by omega), HD3.out⟩
                    case measure => simp [intOf]; omega
                  | false =>
                    have HZ := Lib.hid (show zs (back (upd sh a true) y (qq ++ spn bh ee)) = zs qq ++ zs (spn bh ee) ++ [(y : Int)] by rw [back_no hsy, zs_append, HZQ.out]; rfl)
                    have HSY := Lib.hid hsy
                    have hyw : (Lit.int .i64 (y : Int)).wf = true := MapF.wfN (by omega)
                    clear hsy HZQ

                    -- fnyB
                    go_wp2_with (first
                                 | (at_builtin
                                    refine wp_appQ rfl (.tmp 113) (.tmp 124) rfl B _ (zs qq) sp sc sl (zs (spn bh ee)) rfl HR9.out.full.que rfl HSL.out HSI.out (by rw [← HSL.out]; have := HQL.out; omega) hbs9 ?_
                                    intro qv3 w10 hq10 hg10 hat10
                                    have HR10 := Lib.hid (HR9.out.app_q hq10 hg10 hat10)
                                    clear hq10 hg10 hat10
                                    obtain ⟨_, _, _, c3, _⟩ := HR10.out.full.si.cells
                                    have hrun := HR10.out.look0 (y := y) (by omega) HSY.out)
                                 | (at_builtin
                                    refine wp_appQ rfl (.tmp 133) (.tmp 135) rfl B _ (zs qq ++ zs (spn bh ee)) (some ⟨w10.heap.size, 0, none⟩) 1 1 [(y : Int)] rfl (HR10.out.alloc _).full.que rfl rfl (Ints.one w10 _ hyw) (by rw [List.length_singleton]; have := HLQ.out; omega) (Nat.le_trans HR10.out.full.ord.2.2.2.2.2 (by simp)) ?_
                                    intro qv9 w20 hq20 hg20 hat20
                                    have HR20 := Lib.hid ((HR10.out.alloc _).full.app_q hq20 hg20 hat20)
                                    clear hq20 hg20 hat20))
                    go_roundw
                    case rel => exact ⟨i + 1, ⟨Fp, rh, g ++ Lp, F2, (upd sh a true), back (upd sh a true) y (qq ++ spn bh ee)⟩, by omega, by first | rfl | go_num, HI3.out, by
                      show Full w1 _ bm br cm cr B W R (i + 1) (i + 1) _ _ _ _ _ _ _ (zs (back (upd sh a true) y (qq ++ spn bh ee)))
                      rw [HZ.out]; exact HR20.out.mono (by omega) (by omega), HD3.out⟩
                    case measure => simp [intOf]; omega
                · have t9 : decide ((a : Int) < (n : Int)) = false := decide_eq_false (by omega)
                  have t9n : decide (a < n) = false := decide_eq_false han
                  have HSD := Lib.hid (show SrepMath.snd l.length W R y sf sh = sh from snd_far hQ (by rw [← HN.out]; exact han))
                  clear hQ HR5 han
                  go_wp2_with fail
                  have HSN2 := Lib.hid (show ∀ j, sf + W ≤ j → sh j = none from HSN.out)
                  obtain ⟨L2, F2, hp2'⟩ : ∃ L2 F2, pas sh W sf = (L2, F2) := ⟨_, _, rfl⟩
                  obtain ⟨hq1, hq2⟩ : sf ≤ F2 ∧ F2 ≤ sf + W := by have := pas_le sh W sf; rw [hp2'] at this; dsimp only at this; omega
                  refine (bool.pass_any cr cm sf W R (i) sh _ HR6.out.full.si HR6.out.full.sm (by omega) hW8 HSN2.out L2 F2 hp2').mono ?_; rintro e w8 ⟨v8, rfl, _, hg8, hw8⟩
                  have HR8 := Lib.hid (HR6.out.pass_s hw8 hg8)
                  have HP2 := Lib.hid hp2'
                  obtain ⟨s80, _, _, s83, _⟩ := HR8.out.full.si.cells
                  obtain ⟨fw, hfw⟩ : ∃ fw, F2 + W = fw := ⟨_, rfl⟩
                  have hfI : (F2 : Int) + (W : Int) = (fw : Int) := by omega
                  obtain ⟨ee, hee⟩ : ∃ ee, min (F2 + W) n = ee := ⟨_, rfl⟩
                  have heb : ee ≤ 100 := by omega
                  have mi1 : (if (n : Int) < (fw : Int) then (n : Int) else (fw : Int)) = (ee : Int) := by split <;> omega
                  have mi2 : (if n < fw then (n : Int) else (fw : Int)) = (ee : Int) := by split <;> omega
                  have HEE := Lib.hid (show min (F2 + W) l.length = ee by rw [← HN.out]; exact hee)
                  have hbb : bh ≤ 100 := by omega
                  clear hp2' hfw hee HSN2 hg8 hw8
                  go_wp2_with fail
                  refine (span_any bh ee _ (by omega) (by omega)).mono ?_; rintro e w9 ⟨v9, rfl, hv9, hb9⟩
                  have HR9 := Lib.hid (HR8.out.below hb9)
                  obtain ⟨sp, sc, rfl, hsi⟩ := hv9.form
                  have HSI := Lib.hid hsi
                  have hbs9 : B ≤ w9.heap.size := HR9.out.full.ord.2.2.2.2.2
                  have hsl : (zs (spn bh ee)).length ≤ 100 := by rw [zs_len, spn_len]; omega
                  obtain ⟨sl, hsl2⟩ : ∃ sl, (zs (spn bh ee)).length = sl := ⟨_, rfl⟩
                  rw [hsl2] at hsl ⊢
                  have HSL := Lib.hid hsl2.symm
                  clear hv9 hb9 hsi hsl2
                  have HST := Lib.hid (SrepMath.step_fine l W R (f := ⟨false, false⟩) y qq rf rh g sf sh (y :: qq) rfl rfl HRC.out HP.out HSD.out HP2.out HBH.out HEE.out)
                  have HLQ := Lib.hid (show (zs qq ++ zs (spn bh ee)).length ≤ 4000 by rw [List.length_append, ← HSL.out]; have := HQL.out; omega)
                  have HZQ := Lib.hid (show zs (qq ++ spn bh ee) = zs qq ++ zs (spn bh ee) from zs_append _ _)
                  have HD3 := Lib.hid (show SrepMath.run l W R (fs.drop (i + 1)) ⟨Fp, rh, g ++ Lp, F2, sh, back sh y (qq ++ spn bh ee)⟩ = T by rw [← HST.out]; exact HD2.out)
                  have HI3 := Lib.hid (show SrepMath.Inv n W (i + 1) ⟨Fp, rh, g ++ Lp, F2, sh, back sh y (qq ++ spn bh ee)⟩ by rw [← HST.out]; exact HINV2.out)
                  clear HD2 HINV2 HST
                  cases hsy : (sh y).getD false with
                  | true =>
                    have HZ := Lib.hid (show zs (back sh y (qq ++ spn bh ee)) = zs qq ++ zs (spn bh ee) from (congrArg zs (back_yes hsy)).trans HZQ.out)
                    have HSY := Lib.hid hsy
                    clear hsy HZQ

                    -- fnfK
                    go_wp2_with (
                                 at_builtin
                                 refine wp_appQ rfl (.tmp 113) (.tmp 124) rfl B _ (zs qq) sp sc sl (zs (spn bh ee)) rfl HR9.out.full.que rfl HSL.out HSI.out (by rw [← HSL.out]; have := HQL.out; omega) hbs9 ?_
                                 intro qv3 w10 hq10 hg10 hat10
                                 have HR10 := Lib.hid (HR9.out.app_q hq10 hg10 hat10)
                                 clear hq10 hg10 hat10
                                 obtain ⟨_, _, _, c3, _⟩ := HR10.out.full.si.cells
                                 have hrun := HR10.out.look0 (y := y) (by omega) HSY.out)
                    go_roundw
                    case rel => exact ⟨i + 1, ⟨Fp, rh, g ++ Lp, F2, sh, back sh y (qq ++ spn bh ee)⟩, by omega, by first | rfl | go_num, HI3.out, by
                      show Full w1 _ bm br cm cr B W R (i + 1) (i + 1) _ _ _ _ _ _ _ (zs (back sh y (qq ++ spn bh ee)))
                      rw [HZ.out]; exact HR10.out.full.mono (by omega) (by omega), HD3.out⟩
                    case measure => simp [intOf]; omega
                  | false =>
                    have HZ := Lib.hid (show zs (back sh y (qq ++ spn bh ee)) = zs qq ++ zs (spn bh ee) ++ [(y : Int)] by rw [back_no hsy, zs_append, HZQ.out]; rfl)
                    have HSY := Lib.hid hsy
                    have hyw : (Lit.int .i64 (y : Int)).wf = true := MapF.wfN (by omega)
                    clear hsy HZQ

                    -- fnfB
                    go_wp2_with (first
                                 | (at_builtin
                                    refine wp_appQ rfl (.tmp 113) (.tmp 124) rfl B _ (zs qq) sp sc sl (zs (spn bh ee)) rfl HR9.out.full.que rfl HSL.out HSI.out (by rw [← HSL.out]; have := HQL.out; omega) hbs9 ?_
                                    intro qv3 w10 hq10 hg10 hat10
                                    have HR10 := Lib.hid (HR9.out.app_q hq10 hg10 hat10)
                                    clear hq10 hg10 hat10
                                    obtain ⟨_, _, _, c3, _⟩ := HR10.out.full.si.cells
                                    have hrun := HR10.out.look0 (y := y) (by omega) HSY.out)
                                 | (at_builtin
                                    refine wp_appQ rfl (.tmp 133) (.tmp 135) rfl B _ (zs qq ++ zs (spn bh ee)) (some ⟨w10.heap.size, 0, none⟩) 1 1 [(y : Int)] rfl (HR10.out.alloc _).full.que rfl rfl (Ints.one w10 _ hyw) (by rw [List.length_singleton]; have := HLQ.out; omega) (Nat.le_trans HR10.out.full.ord.2.2.2.2.2 (by simp)) ?_
                                    intro qv9 w20 hq20 hg20 hat20
                                    have HR20 := Lib.hid ((HR10.out.alloc _).full.app_q hq20 hg20 hat20)
                                    clear hq20 hg20 hat20))
                    go_roundw
                    case rel => exact ⟨i + 1, ⟨Fp, rh, g ++ Lp, F2, sh, back sh y (qq ++ spn bh ee)⟩, by omega, by first | rfl | go_num, HI3.out, by
                      show Full w1 _ bm br cm cr B W R (i + 1) (i + 1) _ _ _ _ _ _ _ (zs (back sh y (qq ++ spn bh ee)))
                      rw [HZ.out]; exact HR20.out.mono (by omega) (by omega), HD3.out⟩
                    case measure => simp [intOf]; omega
            | some a0 =>
              have ha0 : a0 < rf + W := (fnd_some hP).2.1
              have HRC := Lib.hid (show rec l W R y rf rh = upd rh a0 (l[y]?.getD 0) from rec_yes hP)
              clear hP
              have hyw := HI.out.2.2.1 y
              have hd := hc1 y (by rw [← HN.out]; exact hyn)
              obtain ⟨z, hz⟩ : ∃ z, l[y]?.getD 0 = z := ⟨_, rfl⟩
              rw [hz] at hyw hd HRC
              clear hz hc1
              have HNONE := Lib.hid (show ∀ j, rf + W ≤ j → upd rh a0 z j = none from fun j hj => by rw [upd_other _ _ (by omega)]; exact HRN.out j hj)
              go_wp2_with fail
              refine (FI.out _ HR1.out.full.ri).mono ?_; rintro e w2 ⟨rfl, hb2⟩
              have HR2 := Lib.hid (HR1.out.below hb2)
              clear hb2 f1 f2 hq0 e1 e2
              simp only [Option.getD_some, Option.isSome_some]
              have g1 := (HR2.out.full.bel.cell (p := ⟨b1, off1 + y, none⟩) hb1w).trans hd
              obtain ⟨_, _, _, r3, _⟩ := HR2.out.full.ri.cells
              obtain ⟨w3, hput', hm3, hg3⟩ := HR2.out.drew.full.rm.store (j := a0) (by omega) (by omega) z hyw
              have hput : (Instr.mapUpdate 44 (.map (some bm)) (.int .i64 (a0 : Int)) (.int .i64 z)).run Try.prog w2.drew = .ok () w3 := hput'
              have HR3 := Lib.hid (HR2.out.drew.put_r hm3 hg3)
              have g4 := (HR3.out.full.bel.cell (p := ⟨b1, off1 + y, none⟩) hb1w).trans hd
              have r4 := HR3.out.full.ri.cells.2.2.2.1
              clear hd hput' hm3 hg3
              go_wp2_with fail
              go_region_held3 (fun W' => W'.cell? ⟨b1, off1 + y, none⟩ = some (.int .i64 z) ∧ W'.cell? ⟨br, 3, none⟩ = some (.map (some bm)))
                (first
                  | exact ⟨g1, r3⟩
                  | exact ⟨g4, r4⟩
                  | go_keep)
                (first
                  | fail)
              clear g1 r3 g4 r4 hput
              go_wp2_with fail
              obtain ⟨Lp, Fp, hp⟩ : ∃ Lp Fp, pas ((upd rh a0 z)) W rf = (Lp, Fp) := ⟨_, _, rfl⟩
              obtain ⟨hp1, hp2, hp3⟩ : rf ≤ Fp ∧ Fp ≤ rf + W ∧ Lp.length ≤ 8 := by have := pas_le ((upd rh a0 z)) W rf; rw [hp] at this; dsimp only at this; omega
              have HP := Lib.hid hp
              refine (int.pass_any br bm rf W R (i + 1) ((upd rh a0 z)) _ HR3.out.full.ri HR3.out.full.rm (by omega) hW8 HNONE.out Lp Fp hp).mono ?_; rintro e w4 ⟨v4, rfl, hv4, hg4, hw4⟩
              have HR4 := Lib.hid (HR3.out.pass_r hw4 hg4)
              obtain ⟨pp, pc, rfl, hpi⟩ := hv4.form
              have HPI := Lib.hid hpi
              have hbs4 : B ≤ w4.heap.size := HR4.out.full.ord.2.2.2.2.2
              obtain ⟨lp, hlp⟩ : ∃ lp, Lp.length = lp := ⟨_, rfl⟩
              rw [hlp] at hp3 ⊢
              have HLP := Lib.hid hlp.symm
              clear hp hlp hv4 hg4 hw4 hpi HNONE
              go_wp2_with (
                           at_builtin
                           refine wp_app rfl (.tmp 75) (.tmp 77) rfl B _ g pp pc lp Lp rfl HR4.out.full.own rfl HLP.out HPI.out (by rw [← HLP.out]; omega) hbs4 ?_
                           intro gv2 w5 hown5 hg5 hat5
                           have HR5 := Lib.hid (HR4.out.app_g hown5 hg5 hat5)
                           obtain ⟨f51, f52⟩ := HR5.out.cells
                           clear hown5 hg5 hat5)
              clear f51 f52
              obtain ⟨Q, hQ⟩ : ∃ Q, fnd R y W sf = Q := ⟨_, rfl⟩
              refine (bool.find_any cr cm sf W R y _ HR5.out.full.si (by omega) hW8 hR2 hR16 (by omega) Q hQ).mono ?_; rintro e w6 ⟨rfl, hb6⟩
              have HR6 := Lib.hid (HR5.out.below hb6)
              clear hb6
              cases Q with
              | none =>
                have HSD := Lib.hid (show SrepMath.snd l.length W R y sf sh = sh from snd_no hQ)
                simp only [Option.getD_none, Option.isSome_none]
                obtain ⟨s0, _, _, s3, _⟩ := HR6.out.full.si.cells
                clear hQ HR5
                obtain ⟨bh, hbh⟩ : ∃ bh, sf + W = bh := ⟨_, rfl⟩
                have hbI : (sf : Int) + (W : Int) = (bh : Int) := by omega
                have HBH := Lib.hid hbh
                go_wp2_with fail
                have HSN2 := Lib.hid (show ∀ j, sf + W ≤ j → sh j = none from HSN.out)
                obtain ⟨L2, F2, hp2'⟩ : ∃ L2 F2, pas sh W sf = (L2, F2) := ⟨_, _, rfl⟩
                obtain ⟨hq1, hq2⟩ : sf ≤ F2 ∧ F2 ≤ sf + W := by have := pas_le sh W sf; rw [hp2'] at this; dsimp only at this; omega
                refine (bool.pass_any cr cm sf W R (i) sh _ HR6.out.full.si HR6.out.full.sm (by omega) hW8 HSN2.out L2 F2 hp2').mono ?_; rintro e w8 ⟨v8, rfl, _, hg8, hw8⟩
                have HR8 := Lib.hid (HR6.out.pass_s hw8 hg8)
                have HP2 := Lib.hid hp2'
                obtain ⟨s80, _, _, s83, _⟩ := HR8.out.full.si.cells
                obtain ⟨fw, hfw⟩ : ∃ fw, F2 + W = fw := ⟨_, rfl⟩
                have hfI : (F2 : Int) + (W : Int) = (fw : Int) := by omega
                obtain ⟨ee, hee⟩ : ∃ ee, min (F2 + W) n = ee := ⟨_, rfl⟩
                have heb : ee ≤ 100 := by omega
                have mi1 : (if (n : Int) < (fw : Int) then (n : Int) else (fw : Int)) = (ee : Int) := by split <;> omega
                have mi2 : (if n < fw then (n : Int) else (fw : Int)) = (ee : Int) := by split <;> omega
                have HEE := Lib.hid (show min (F2 + W) l.length = ee by rw [← HN.out]; exact hee)
                have hbb : bh ≤ 100 := by omega
                clear hp2' hfw hee HSN2 hg8 hw8
                go_wp2_with fail
                refine (span_any bh ee _ (by omega) (by omega)).mono ?_; rintro e w9 ⟨v9, rfl, hv9, hb9⟩
                have HR9 := Lib.hid (HR8.out.below hb9)
                obtain ⟨sp, sc, rfl, hsi⟩ := hv9.form
                have HSI := Lib.hid hsi
                have hbs9 : B ≤ w9.heap.size := HR9.out.full.ord.2.2.2.2.2
                have hsl : (zs (spn bh ee)).length ≤ 100 := by rw [zs_len, spn_len]; omega
                obtain ⟨sl, hsl2⟩ : ∃ sl, (zs (spn bh ee)).length = sl := ⟨_, rfl⟩
                rw [hsl2] at hsl ⊢
                have HSL := Lib.hid hsl2.symm
                clear hv9 hb9 hsi hsl2
                have HST := Lib.hid (SrepMath.step_fine l W R (f := ⟨false, false⟩) y qq rf rh g sf sh (y :: qq) rfl rfl HRC.out HP.out HSD.out HP2.out HBH.out HEE.out)
                have HLQ := Lib.hid (show (zs qq ++ zs (spn bh ee)).length ≤ 4000 by rw [List.length_append, ← HSL.out]; have := HQL.out; omega)
                have HZQ := Lib.hid (show zs (qq ++ spn bh ee) = zs qq ++ zs (spn bh ee) from zs_append _ _)
                have HD3 := Lib.hid (show SrepMath.run l W R (fs.drop (i + 1)) ⟨Fp, (upd rh a0 z), g ++ Lp, F2, sh, back sh y (qq ++ spn bh ee)⟩ = T by rw [← HST.out]; exact HD2.out)
                have HI3 := Lib.hid (show SrepMath.Inv n W (i + 1) ⟨Fp, (upd rh a0 z), g ++ Lp, F2, sh, back sh y (qq ++ spn bh ee)⟩ by rw [← HST.out]; exact HINV2.out)
                clear HD2 HINV2 HST
                cases hsy : (sh y).getD false with
                | true =>
                  have HZ := Lib.hid (show zs (back sh y (qq ++ spn bh ee)) = zs qq ++ zs (spn bh ee) from (congrArg zs (back_yes hsy)).trans HZQ.out)
                  have HSY := Lib.hid hsy
                  clear hsy HZQ

                  -- fynK
                  go_wp2_with (
                               at_builtin
                               refine wp_appQ rfl (.tmp 113) (.tmp 124) rfl B _ (zs qq) sp sc sl (zs (spn bh ee)) rfl HR9.out.full.que rfl HSL.out HSI.out (by rw [← HSL.out]; have := HQL.out; omega) hbs9 ?_
                               intro qv3 w10 hq10 hg10 hat10
                               have HR10 := Lib.hid (HR9.out.app_q hq10 hg10 hat10)
                               clear hq10 hg10 hat10
                               obtain ⟨_, _, _, c3, _⟩ := HR10.out.full.si.cells
                               have hrun := HR10.out.look0 (y := y) (by omega) HSY.out)
                  go_roundw
                  case rel => exact ⟨i + 1, ⟨Fp, (upd rh a0 z), g ++ Lp, F2, sh, back sh y (qq ++ spn bh ee)⟩, by omega, by first | rfl | go_num, HI3.out, by
                    show Full w1 _ bm br cm cr B W R (i + 1) (i + 1) _ _ _ _ _ _ _ (zs (back sh y (qq ++ spn bh ee)))
                    rw [HZ.out]; exact HR10.out.full.mono (by omega) (by omega), HD3.out⟩
                  case measure => simp [intOf]; omega
                | false =>
                  have HZ := Lib.hid (show zs (back sh y (qq ++ spn bh ee)) = zs qq ++ zs (spn bh ee) ++ [(y : Int)] by rw [back_no hsy, zs_append, HZQ.out]; rfl)
                  have HSY := Lib.hid hsy
                  have hyw : (Lit.int .i64 (y : Int)).wf = true := MapF.wfN (by omega)
                  clear hsy HZQ

                  -- fynB
                  go_wp2_with (first
                               | (at_builtin
                                  refine wp_appQ rfl (.tmp 113) (.tmp 124) rfl B _ (zs qq) sp sc sl (zs (spn bh ee)) rfl HR9.out.full.que rfl HSL.out HSI.out (by rw [← HSL.out]; have := HQL.out; omega) hbs9 ?_
                                  intro qv3 w10 hq10 hg10 hat10
                                  have HR10 := Lib.hid (HR9.out.app_q hq10 hg10 hat10)
                                  clear hq10 hg10 hat10
                                  obtain ⟨_, _, _, c3, _⟩ := HR10.out.full.si.cells
                                  have hrun := HR10.out.look0 (y := y) (by omega) HSY.out)
                               | (at_builtin
                                  refine wp_appQ rfl (.tmp 133) (.tmp 135) rfl B _ (zs qq ++ zs (spn bh ee)) (some ⟨w10.heap.size, 0, none⟩) 1 1 [(y : Int)] rfl (HR10.out.alloc _).full.que rfl rfl (Ints.one w10 _ hyw) (by rw [List.length_singleton]; have := HLQ.out; omega) (Nat.le_trans HR10.out.full.ord.2.2.2.2.2 (by simp)) ?_
                                  intro qv9 w20 hq20 hg20 hat20
                                  have HR20 := Lib.hid ((HR10.out.alloc _).full.app_q hq20 hg20 hat20)
                                  clear hq20 hg20 hat20))
                  go_roundw
                  case rel => exact ⟨i + 1, ⟨Fp, (upd rh a0 z), g ++ Lp, F2, sh, back sh y (qq ++ spn bh ee)⟩, by omega, by first | rfl | go_num, HI3.out, by
                    show Full w1 _ bm br cm cr B W R (i + 1) (i + 1) _ _ _ _ _ _ _ (zs (back sh y (qq ++ spn bh ee)))
                    rw [HZ.out]; exact HR20.out.mono (by omega) (by omega), HD3.out⟩
                  case measure => simp [intOf]; omega
              | some a =>
                have ha : a < sf + W := (fnd_some hQ).2.1
                have ha2 : sf ≤ a := (fnd_some hQ).1
                obtain ⟨s0, _, _, s3, _⟩ := HR6.out.full.si.cells
                obtain ⟨bh, hbh⟩ : ∃ bh, sf + W = bh := ⟨_, rfl⟩
                have hbI : (sf : Int) + (W : Int) = (bh : Int) := by omega
                have HBH := Lib.hid hbh
                simp only [Option.getD_some, Option.isSome_some]
                by_cases han : a < n
                · have t9 : decide ((a : Int) < (n : Int)) = true := decide_eq_true (by omega)
                  have HSD := Lib.hid (show SrepMath.snd l.length W R y sf sh = upd sh a true from snd_yes hQ (by rw [← HN.out]; exact han))
                  clear hQ HR5
                  go_wp2_with (at_mapUpdate
                               refine wp_put (E := EB) rfl (.tmp 103) (.tmp 104) (.const (.bool true)) rfl HR6.out.full.sm (by omega) a (by omega) true trivial rfl rfl rfl ?_
                               intro w7 hm7 hg7
                               have HR7 := Lib.hid (HR6.out.put_s hm7 hg7)
                               obtain ⟨s70, _, _, s73, _⟩ := HR7.out.full.si.cells
                               clear hm7 hg7)
                  have HSN2 := Lib.hid (show ∀ j, sf + W ≤ j → upd sh a true j = none from fun j hj => by rw [upd_other _ _ (by omega)]; exact HSN.out j hj)
                  obtain ⟨L2, F2, hp2'⟩ : ∃ L2 F2, pas (upd sh a true) W sf = (L2, F2) := ⟨_, _, rfl⟩
                  obtain ⟨hq1, hq2⟩ : sf ≤ F2 ∧ F2 ≤ sf + W := by have := pas_le (upd sh a true) W sf; rw [hp2'] at this; dsimp only at this; omega
                  refine (bool.pass_any cr cm sf W R (i + 1) (upd sh a true) _ HR7.out.full.si HR7.out.full.sm (by omega) hW8 HSN2.out L2 F2 hp2').mono ?_; rintro e w8 ⟨v8, rfl, _, hg8, hw8⟩
                  have HR8 := Lib.hid (HR7.out.pass_s hw8 hg8)
                  have HP2 := Lib.hid hp2'
                  obtain ⟨s80, _, _, s83, _⟩ := HR8.out.full.si.cells
                  obtain ⟨fw, hfw⟩ : ∃ fw, F2 + W = fw := ⟨_, rfl⟩
                  have hfI : (F2 : Int) + (W : Int) = (fw : Int) := by omega
                  obtain ⟨ee, hee⟩ : ∃ ee, min (F2 + W) n = ee := ⟨_, rfl⟩
                  have heb : ee ≤ 100 := by omega
                  have mi1 : (if (n : Int) < (fw : Int) then (n : Int) else (fw : Int)) = (ee : Int) := by split <;> omega
                  have mi2 : (if n < fw then (n : Int) else (fw : Int)) = (ee : Int) := by split <;> omega
                  have HEE := Lib.hid (show min (F2 + W) l.length = ee by rw [← HN.out]; exact hee)
                  have hbb : bh ≤ 100 := by omega
                  clear hp2' hfw hee HSN2 hg8 hw8
                  go_wp2_with fail
                  refine (span_any bh ee _ (by omega) (by omega)).mono ?_; rintro e w9 ⟨v9, rfl, hv9, hb9⟩
                  have HR9 := Lib.hid (HR8.out.below hb9)
                  obtain ⟨sp, sc, rfl, hsi⟩ := hv9.form
                  have HSI := Lib.hid hsi
                  have hbs9 : B ≤ w9.heap.size := HR9.out.full.ord.2.2.2.2.2
                  have hsl : (zs (spn bh ee)).length ≤ 100 := by rw [zs_len, spn_len]; omega
                  obtain ⟨sl, hsl2⟩ : ∃ sl, (zs (spn bh ee)).length = sl := ⟨_, rfl⟩
                  rw [hsl2] at hsl ⊢
                  have HSL := Lib.hid hsl2.symm
                  clear hv9 hb9 hsi hsl2
                  have HST := Lib.hid (SrepMath.step_fine l W R (f := ⟨false, false⟩) y qq rf rh g sf sh (y :: qq) rfl rfl HRC.out HP.out HSD.out HP2.out HBH.out HEE.out)
                  have HLQ := Lib.hid (show (zs qq ++ zs (spn bh ee)).length ≤ 4000 by rw [List.length_append, ← HSL.out]; have := HQL.out; omega)
                  have HZQ := Lib.hid (show zs (qq ++ spn bh ee) = zs qq ++ zs (spn bh ee) from zs_append _ _)
                  have HD3 := Lib.hid (show SrepMath.run l W R (fs.drop (i + 1)) ⟨Fp, (upd rh a0 z), g ++ Lp, F2, (upd sh a true), back (upd sh a true) y (qq ++ spn bh ee)⟩ = T by rw [← HST.out]; exact HD2.out)
                  have HI3 := Lib.hid (show SrepMath.Inv n W (i + 1) ⟨Fp, (upd rh a0 z), g ++ Lp, F2, (upd sh a true), back (upd sh a true) y (qq ++ spn bh ee)⟩ by rw [← HST.out]; exact HINV2.out)
                  clear HD2 HINV2 HST
                  cases hsy : ((upd sh a true) y).getD false with
                  | true =>
                    have HZ := Lib.hid (show zs (back (upd sh a true) y (qq ++ spn bh ee)) = zs qq ++ zs (spn bh ee) from (congrArg zs (back_yes hsy)).trans HZQ.out)
                    have HSY := Lib.hid hsy
                    clear hsy HZQ

                    -- fyyK
                    go_wp2_with (
                                 at_builtin
                                 refine wp_appQ rfl (.tmp 113) (.tmp 124) rfl B _ (zs qq) sp sc sl (zs (spn bh ee)) rfl HR9.out.full.que rfl HSL.out HSI.out (by rw [← HSL.out]; have := HQL.out; omega) hbs9 ?_
                                 intro qv3 w10 hq10 hg10 hat10
                                 have HR10 := Lib.hid (HR9.out.app_q hq10 hg10 hat10)
                                 clear hq10 hg10 hat10
                                 obtain ⟨_, _, _, c3, _⟩ := HR10.out.full.si.cells
                                 have hrun := HR10.out.look0 (y := y) (by omega) HSY.out)
                    go_roundw
                    case rel => exact ⟨i + 1, ⟨Fp, (upd rh a0 z), g ++ Lp, F2, (upd sh a true), back (upd sh a true) y (qq ++ spn bh ee)⟩, by omega, by first | rfl | go_num, HI3.out, by
                      show Full w1 _ bm br cm cr B W R (i + 1) (i + 1) _ _ _ _ _ _ _ (zs (back (upd sh a true) y (qq ++ spn bh ee)))
                      rw [HZ.out]; exact HR10.out.full.mono (by omega) (by omega), HD3.out⟩
                    case measure => simp [intOf]; omega
                  | false =>
                    have HZ := Lib.hid (show zs (back (upd sh a true) y (qq ++ spn bh ee)) = zs qq ++ zs (spn bh ee) ++ [(y : Int)] by rw [back_no hsy, zs_append, HZQ.out]; rfl)
                    have HSY := Lib.hid hsy
                    have hyw : (Lit.int .i64 (y : Int)).wf = true := MapF.wfN (by omega)
                    clear hsy HZQ

                    -- fyyB
                    go_wp2_with (first
                                 | (at_builtin
                                    refine wp_appQ rfl (.tmp 113) (.tmp 124) rfl B _ (zs qq) sp sc sl (zs (spn bh ee)) rfl HR9.out.full.que rfl HSL.out HSI.out (by rw [← HSL.out]; have := HQL.out; omega) hbs9 ?_
                                    intro qv3 w10 hq10 hg10 hat10
                                    have HR10 := Lib.hid (HR9.out.app_q hq10 hg10 hat10)
                                    clear hq10 hg10 hat10
                                    obtain ⟨_, _, _, c3, _⟩ := HR10.out.full.si.cells
                                    have hrun := HR10.out.look0 (y := y) (by omega) HSY.out)
                                 | (at_builtin
                                    refine wp_appQ rfl (.tmp 133) (.tmp 135) rfl B _ (zs qq ++ zs (spn bh ee)) (some ⟨w10.heap.size, 0, none⟩) 1 1 [(y : Int)] rfl (HR10.out.alloc _).full.que rfl rfl (Ints.one w10 _ hyw) (by rw [List.length_singleton]; have := HLQ.out; omega) (Nat.le_trans HR10.out.full.ord.2.2.2.2.2 (by simp)) ?_
                                    intro qv9 w20 hq20 hg20 hat20
                                    have HR20 := Lib.hid ((HR10.out.alloc _).full.app_q hq20 hg20 hat20)
                                    clear hq20 hg20 hat20))
                    go_roundw
                    case rel => exact ⟨i + 1, ⟨Fp, (upd rh a0 z), g ++ Lp, F2, (upd sh a true), back (upd sh a true) y (qq ++ spn bh ee)⟩, by omega, by first | rfl | go_num, HI3.out, by
                      show Full w1 _ bm br cm cr B W R (i + 1) (i + 1) _ _ _ _ _ _ _ (zs (back (upd sh a true) y (qq ++ spn bh ee)))
                      rw [HZ.out]; exact HR20.out.mono (by omega) (by omega), HD3.out⟩
                    case measure => simp [intOf]; omega
                · have t9 : decide ((a : Int) < (n : Int)) = false := decide_eq_false (by omega)
                  have t9n : decide (a < n) = false := decide_eq_false han
                  have HSD := Lib.hid (show SrepMath.snd l.length W R y sf sh = sh from snd_far hQ (by rw [← HN.out]; exact han))
                  clear hQ HR5 han
                  go_wp2_with fail
                  have HSN2 := Lib.hid (show ∀ j, sf + W ≤ j → sh j = none from HSN.out)
                  obtain ⟨L2, F2, hp2'⟩ : ∃ L2 F2, pas sh W sf = (L2, F2) := ⟨_, _, rfl⟩
                  obtain ⟨hq1, hq2⟩ : sf ≤ F2 ∧ F2 ≤ sf + W := by have := pas_le sh W sf; rw [hp2'] at this; dsimp only at this; omega
                  refine (bool.pass_any cr cm sf W R (i) sh _ HR6.out.full.si HR6.out.full.sm (by omega) hW8 HSN2.out L2 F2 hp2').mono ?_; rintro e w8 ⟨v8, rfl, _, hg8, hw8⟩
                  have HR8 := Lib.hid (HR6.out.pass_s hw8 hg8)
                  have HP2 := Lib.hid hp2'
                  obtain ⟨s80, _, _, s83, _⟩ := HR8.out.full.si.cells
                  obtain ⟨fw, hfw⟩ : ∃ fw, F2 + W = fw := ⟨_, rfl⟩
                  have hfI : (F2 : Int) + (W : Int) = (fw : Int) := by omega
                  obtain ⟨ee, hee⟩ : ∃ ee, min (F2 + W) n = ee := ⟨_, rfl⟩
                  have heb : ee ≤ 100 := by omega
                  have mi1 : (if (n : Int) < (fw : Int) then (n : Int) else (fw : Int)) = (ee : Int) := by split <;> omega
                  have mi2 : (if n < fw then (n : Int) else (fw : Int)) = (ee : Int) := by split <;> omega
                  have HEE := Lib.hid (show min (F2 + W) l.length = ee by rw [← HN.out]; exact hee)
                  have hbb : bh ≤ 100 := by omega
                  clear hp2' hfw hee HSN2 hg8 hw8
                  go_wp2_with fail
                  refine (span_any bh ee _ (by omega) (by omega)).mono ?_; rintro e w9 ⟨v9, rfl, hv9, hb9⟩
                  have HR9 := Lib.hid (HR8.out.below hb9)
                  obtain ⟨sp, sc, rfl, hsi⟩ := hv9.form
                  have HSI := Lib.hid hsi
                  have hbs9 : B ≤ w9.heap.size := HR9.out.full.ord.2.2.2.2.2
                  have hsl : (zs (spn bh ee)).length ≤ 100 := by rw [zs_len, spn_len]; omega
                  obtain ⟨sl, hsl2⟩ : ∃ sl, (zs (spn bh ee)).length = sl := ⟨_, rfl⟩
                  rw [hsl2] at hsl ⊢
                  have HSL := Lib.hid hsl2.symm
                  clear hv9 hb9 hsi hsl2
                  have HST := Lib.hid (SrepMath.step_fine l W R (f := ⟨false, false⟩) y qq rf rh g sf sh (y :: qq) rfl rfl HRC.out HP.out HSD.out HP2.out HBH.out HEE.out)
                  have HLQ := Lib.hid (show (zs qq ++ zs (spn bh ee)).length ≤ 4000 by rw [List.length_append, ← HSL.out]; have := HQL.out; omega)
                  have HZQ := Lib.hid (show zs (qq ++ spn bh ee) = zs qq ++ zs (spn bh ee) from zs_append _ _)
                  have HD3 := Lib.hid (show SrepMath.run l W R (fs.drop (i + 1)) ⟨Fp, (upd rh a0 z), g ++ Lp, F2, sh, back sh y (qq ++ spn bh ee)⟩ = T by rw [← HST.out]; exact HD2.out)
                  have HI3 := Lib.hid (show SrepMath.Inv n W (i + 1) ⟨Fp, (upd rh a0 z), g ++ Lp, F2, sh, back sh y (qq ++ spn bh ee)⟩ by rw [← HST.out]; exact HINV2.out)
                  clear HD2 HINV2 HST
                  cases hsy : (sh y).getD false with
                  | true =>
                    have HZ := Lib.hid (show zs (back sh y (qq ++ spn bh ee)) = zs qq ++ zs (spn bh ee) from (congrArg zs (back_yes hsy)).trans HZQ.out)
                    have HSY := Lib.hid hsy
                    clear hsy HZQ

                    -- fyfK
                    go_wp2_with (
                                 at_builtin
                                 refine wp_appQ rfl (.tmp 113) (.tmp 124) rfl B _ (zs qq) sp sc sl (zs (spn bh ee)) rfl HR9.out.full.que rfl HSL.out HSI.out (by rw [← HSL.out]; have := HQL.out; omega) hbs9 ?_
                                 intro qv3 w10 hq10 hg10 hat10
                                 have HR10 := Lib.hid (HR9.out.app_q hq10 hg10 hat10)
                                 clear hq10 hg10 hat10
                                 obtain ⟨_, _, _, c3, _⟩ := HR10.out.full.si.cells
                                 have hrun := HR10.out.look0 (y := y) (by omega) HSY.out)
                    go_roundw
                    case rel => exact ⟨i + 1, ⟨Fp, (upd rh a0 z), g ++ Lp, F2, sh, back sh y (qq ++ spn bh ee)⟩, by omega, by first | rfl | go_num, HI3.out, by
                      show Full w1 _ bm br cm cr B W R (i + 1) (i + 1) _ _ _ _ _ _ _ (zs (back sh y (qq ++ spn bh ee)))
                      rw [HZ.out]; exact HR10.out.full.mono (by omega) (by omega), HD3.out⟩
                    case measure => simp [intOf]; omega
                  | false =>
                    have HZ := Lib.hid (show zs (back sh y (qq ++ spn bh ee)) = zs qq ++ zs (spn bh ee) ++ [(y : Int)] by rw [back_no hsy, zs_append, HZQ.out]; rfl)
                    have HSY := Lib.hid hsy
                    have hyw : (Lit.int .i64 (y : Int)).wf = true := MapF.wfN (by omega)
                    clear hsy HZQ

                    -- fyfB
                    go_wp2_with (first
                                 | (at_builtin
                                    refine wp_appQ rfl (.tmp 113) (.tmp 124) rfl B _ (zs qq) sp sc sl (zs (spn bh ee)) rfl HR9.out.full.que rfl HSL.out HSI.out (by rw [← HSL.out]; have := HQL.out; omega) hbs9 ?_
                                    intro qv3 w10 hq10 hg10 hat10
                                    have HR10 := Lib.hid (HR9.out.app_q hq10 hg10 hat10)
                                    clear hq10 hg10 hat10
                                    obtain ⟨_, _, _, c3, _⟩ := HR10.out.full.si.cells
                                    have hrun := HR10.out.look0 (y := y) (by omega) HSY.out)
                                 | (at_builtin
                                    refine wp_appQ rfl (.tmp 133) (.tmp 135) rfl B _ (zs qq ++ zs (spn bh ee)) (some ⟨w10.heap.size, 0, none⟩) 1 1 [(y : Int)] rfl (HR10.out.alloc _).full.que rfl rfl (Ints.one w10 _ hyw) (by rw [List.length_singleton]; have := HLQ.out; omega) (Nat.le_trans HR10.out.full.ord.2.2.2.2.2 (by simp)) ?_
                                    intro qv9 w20 hq20 hg20 hat20
                                    have HR20 := Lib.hid ((HR10.out.alloc _).full.app_q hq20 hg20 hat20)
                                    clear hq20 hg20 hat20))
                    go_roundw
                    case rel => exact ⟨i + 1, ⟨Fp, (upd rh a0 z), g ++ Lp, F2, sh, back sh y (qq ++ spn bh ee)⟩, by omega, by first | rfl | go_num, HI3.out, by
                      show Full w1 _ bm br cm cr B W R (i + 1) (i + 1) _ _ _ _ _ _ _ (zs (back sh y (qq ++ spn bh ee)))
                      rw [HZ.out]; exact HR20.out.mono (by omega) (by omega), HD3.out⟩
                    case measure => simp [intOf]; omega
    · obtain rfl : i = m := by omega
      have HE := Lib.hid (show (⟨rf, rh, g, sf, sh, qq⟩ : St) = T by
        have := HRUN.out
        rw [List.drop_eq_nil_of_le (by rw [HM.out]; exact Nat.le_refl _)] at this
        exact this)
      have d0 := hfull.si.cells.1
      have HFU := Lib.hid hfull
      clear HRUN hfull
      go_wp2_with fail
      go_quiet (fail)
      go_wp2_with fail
      go_ret3
      refine ⟨_, by rw [← HE.out]; rfl, ?_, below_drewN HFU.out.bel _⟩
      rw [← HE.out]
      exact own_mono (HFU.out.own) (by have := HFU.out.ord; omega)
end Go.Proofs.Ythiebkkfgegebaa.Srep
