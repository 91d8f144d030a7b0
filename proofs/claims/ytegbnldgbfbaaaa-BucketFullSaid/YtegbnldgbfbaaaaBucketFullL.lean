/- Who waits long enough may take all, and no more; what is refused takes nothing: the law returns true for every input. No condition. -/
import Derived.Test.YtegbnldgbfbaaaaBucketSt
import Derived.Test.YtegbnldgbfbaaaaBucketFact
import Derived.Test.YtegbnldgbfbaaaaRows0
import Derived.Deep.RegionHeld3
namespace Go.Proofs.Ytegbnldgbfbaaaa.BucketFullL
open Go.ChangeShapes Go.WideShapes Go.ChangeAt Go.RowKit Go.Proofs.Ytegbnldgbfbaaaa.Kit Go.Proofs.Ytegbnldgbfbaaaa.App Go.Proofs.Ytegbnldgbfbaaaa.Err Go.Proofs.Ytegbnldgbfbaaaa.Bucket
set_option linter.unusedVariables false
set_option maxRecDepth 20000

abbrev Law (r d : Int) (p : Option Addr) (n cap : Nat) (w : World) : Prop := Calls Try.prog 4 #[.int .i64 r, .int .i64 d, .slice p n cap] w fun e w' => e = .returned (.bool true) ∧ Below w.heap.size w w'
theorem law_bad (r d : Int) (p : Option Addr) (n cap : Nat) (w : World) (h : ¬ ((0 ≤ r ∧ r ≤ 20) ∧ (0 ≤ d ∧ d ≤ 100))) : Law r d p n cap w := by
  have FA := Lib.hid (fact_any w)
  have NW := Lib.hid (fun W => new_bad r d W h)
  rw [er_1] at NW
  by_cases h1 : 0 ≤ r ∧ r ≤ 20
  · have IN := Lib.hid (fun W => Go.Proofs.Ytegbnldgbfbaaaa.Rtt.in_any r 0 20 W true (in_true h1))
    have IN2 := Lib.hid (fun W => Go.Proofs.Ytegbnldgbfbaaaa.Rtt.in_any d 0 100 W false (in_false (fun h2 => h ⟨h1, h2⟩)))
    clear h h1
    unfold Law
    go_enter Try.func4, Try.ntmps4
    go_wp2_with fail
    refine FA.out.mono ?_; rintro e w1 ⟨rfl, hb1⟩
    go_wp2_with fail
    refine (NW.out w1).mono ?_; rintro e w2 ⟨rfl, rfl⟩
    go_wp2_with fail
    refine (IN.out _).mono ?_; rintro e w3 ⟨rfl, rfl⟩
    go_wp2_with fail
    refine (IN2.out _).mono ?_; rintro e w3 ⟨rfl, rfl⟩
    go_wp2_with fail
    go_ret
    exact ⟨rfl, hb1⟩
  · have IN := Lib.hid (fun W => Go.Proofs.Ytegbnldgbfbaaaa.Rtt.in_any r 0 20 W false (in_false h1))
    clear h h1
    unfold Law
    go_enter Try.func4, Try.ntmps4
    go_wp2_with fail
    refine FA.out.mono ?_; rintro e w1 ⟨rfl, hb1⟩
    go_wp2_with fail
    refine (NW.out w1).mono ?_; rintro e w2 ⟨rfl, rfl⟩
    go_wp2_with fail
    refine (IN.out _).mono ?_; rintro e w3 ⟨rfl, rfl⟩
    go_wp2_with fail
    go_ret
    exact ⟨rfl, hb1⟩
set_option maxHeartbeats 4000000 in
theorem law_good (r d : Int) (p0 : Option Addr) (n cap : Nat) (ls : List (List Int)) (w : World) (hn : n = ls.length) (hR : RowsI w p0 cap ls) (h0 : (0 ≤ r ∧ r ≤ 20) ∧ (0 ≤ d ∧ d ≤ 100)) : Law r d p0 n cap w := by
  have FA := Lib.hid (fact_any w)
  have NW := Lib.hid (fun W => new_good r d W h0)
  have HO0 := Lib.hid (ok_new h0)
  have HR := Lib.hid hR
  have hcap := hR.len_le
  rw [← hn] at hcap
  have HN := Lib.hid hn
  obtain ⟨⟨r1, r2⟩, d1, d2⟩ := h0
  clear hn hR
  unfold Law
  go_enter Try.func4, Try.ntmps4
  go_wp2_with fail
  refine FA.out.mono ?_; rintro e w1 ⟨rfl, hb1⟩
  clear FA
  go_wp2_with fail
  refine (NW.out w1).mono ?_; rintro e w2 ⟨rfl, hT2, hb2⟩
  have HM0 := Lib.hid (Mem.new hT2 (bcall hb1 hb2) hb1.size)
  clear hb1 hb2 hT2 NW
  generalize w1.heap.size = g at HM0 ⊢
  generalize w2.heap.size = B at HM0
  go_wp2_with fail
  go_loopw [10] (fun iv wr => ∃ k : Nat, iv = .int .i64 (k : Int) ∧ k ≤ n ∧ ∃ h t, Hid (Mem w wr B g r d h t [] [] (.slice none 0 0) (.slice none 0 0)) ∧ Hid (Ok r d h t)) (fun i _ => n - (intOf i).toNat)
  case atStart => exact ⟨0, rfl, Nat.zero_le _, d, 0, HM0, HO0⟩
  case round =>
    obtain ⟨k, rfl, hk, h, t, HM, HO⟩ := hrel
    clear HM0 HO0
    by_cases hkn : k < n
    · have t1 : decide ((k : Int) < (n : Int)) = true := decide_eq_true (by omega)
      by_cases hk60 : k < 60
      · have t2 : decide ((k : Int) < 60) = true := decide_eq_true (by omega)
        obtain ⟨d0, off0, rfl, hd0, hrow⟩ := HR.out.2.2 (by have := HN.out; omega)
        obtain ⟨qr, cr, hq, hI⟩ := hrow k (by have := HN.out; omega)
        generalize ls[k]?.getD [] = row at hq hI
        clear hrow
        by_cases h2 : row.length = 2
        · rw [h2] at hq
          obtain ⟨bb, off, rfl, hbb, hcs⟩ := hI.2.2.2 (by omega)
          have c0 := hcs 0 (by omega)
          have c1 := hcs 1 (by omega)
          have wx := hI.2.2.1 0
          have wy := hI.2.2.1 1
          generalize row[0]?.getD 0 = x at c0 wx
          generalize row[1]?.getD 0 = y at c1 wy
          have K := Lib.hid (fun W (hW : Below w.heap.size w W) => (⟨(hW.cell (p := ⟨d0, off0 + k, none⟩) hd0).trans hq, (hW.cell (p := ⟨bb, off, none⟩) hbb).trans c0, (hW.cell (p := ⟨bb, off + 1, none⟩) hbb).trans c1⟩ : W.cell? ⟨d0, off0 + k, none⟩ = some (.slice (some ⟨bb, off, none⟩) 2 cr) ∧ W.cell? ⟨bb, off, none⟩ = some (.int .i64 x) ∧ W.cell? ⟨bb, off + 1, none⟩ = some (.int .i64 y)))
          have HWX := Lib.hid wx
          have HWY := Lib.hid wy
          clear hcs hI hbb h2 hq hd0 c0 c1 wx wy row
          obtain ⟨k0, k1, k2⟩ := K.out wr HM.out.bel
          by_cases hG : GoodT t x y
          · by_cases hf : y ≤ fill d h (r * (x - t))
            · have C := Lib.hid (take_yes g r d h t x y HO.out hG hf wr.drew HM.out.bkt)
              have HO4 := Lib.hid (ok_take (ok_fill HO.out hG) hG.1.2.1 hf)
              generalize fill d h (r * (x - t)) - y = h4 at C HO4
              clear hG hf
              have HMd := Lib.hid (HM.out.drewN 1)
              change Hid (Mem w wr.drew B g r d h t [] [] (.slice none 0 0) (.slice none 0 0)) at HMd
              clear HM HO
              go_wp2_with fail
              go_region_held3 (fun W' => W'.cell? ⟨d0, off0 + k, none⟩ = some (.slice (some ⟨bb, off, none⟩) 2 cr) ∧ W'.cell? ⟨bb, off, none⟩ = some (.int .i64 x) ∧ W'.cell? ⟨bb, off + 1, none⟩ = some (.int .i64 y))
                (first
                  | exact ⟨k0, k1, k2⟩
                  | exact K.out _ HM8.out.bel
                  | go_keep)
                (first
                  | (go_at_call 8; refine C.out.mono ?_; rintro e w8 ⟨rfl, hT8, hg8⟩
                     have HM8 := Lib.hid (HMd.out.call hT8 hg8)
                     clear hT8 hg8))
              clear C k0 k1 k2 HMd
              have HA := Lib.hid (has_any g r d h4 x w8 HM8.out.bkt)
              have HOI := HO4.out
              obtain ⟨o1, o2, o3, o4, o5, o6, o7, o8⟩ := HOI
              have IN := Lib.hid (fun W => Go.Proofs.Ytegbnldgbfbaaaa.Rtt.in_any h4 0 d W true (in_true ⟨o5, o6⟩))
              clear o1 o2 o3 o4 o5 o6 o7 o8
              go_wp2_with fail
              refine HA.out.mono ?_; rintro e w9 ⟨rfl, m9, rfl⟩
              have HM9 := Lib.hid (HM8.out.drewN m9)
              clear HA HM8
              generalize w8.drewN m9 = w9 at HM9 ⊢
              obtain ⟨k0, k1, k2⟩ := K.out w9 HM9.out.bel
              have t8 : (x != x) = false := by simp
              go_wp2_with fail
              refine (IN.out _).mono ?_; rintro e w9 ⟨rfl, rfl⟩
              go_wp2_with fail
              go_roundw
              case rel => exact ⟨k + 1, by first | rfl | go_num, by omega, h4, x, HM9, HO4⟩
              case measure => simp [intOf]; omega
            · have C := Lib.hid (take_less g r d h t x y HO.out hG hf wr.drew HM.out.bkt)
              have HO4 := Lib.hid (ok_fill HO.out hG)
              generalize fill d h (r * (x - t)) = h4 at C HO4 hf
              have t9 : decide (y ≤ h4) = false := decide_eq_false hf
              clear hG hf
              have HMd := Lib.hid (HM.out.drewN 1)
              change Hid (Mem w wr.drew B g r d h t [] [] (.slice none 0 0) (.slice none 0 0)) at HMd
              clear HM HO
              go_wp2_with fail
              go_region_held3 (fun W' => W'.cell? ⟨d0, off0 + k, none⟩ = some (.slice (some ⟨bb, off, none⟩) 2 cr) ∧ W'.cell? ⟨bb, off, none⟩ = some (.int .i64 x) ∧ W'.cell? ⟨bb, off + 1, none⟩ = some (.int .i64 y))
                (first
                  | exact ⟨k0, k1, k2⟩
                  | exact K.out _ HM8.out.bel
                  | go_keep)
                (first
                  | (go_at_call 8; refine C.out.mono ?_; rintro e w8 ⟨rfl, hT8, hg8⟩
                     have HM8 := Lib.hid (HMd.out.call hT8 hg8)
                     clear hT8 hg8))
              clear C k0 k1 k2 HMd
              have HA := Lib.hid (has_any g r d h4 x w8 HM8.out.bkt)
              have HOI := HO4.out
              obtain ⟨o1, o2, o3, o4, o5, o6, o7, o8⟩ := HOI
              have IN := Lib.hid (fun W => Go.Proofs.Ytegbnldgbfbaaaa.Rtt.in_any h4 0 d W true (in_true ⟨o5, o6⟩))
              clear o1 o2 o3 o4 o5 o6 o7 o8
              go_wp2_with fail
              refine HA.out.mono ?_; rintro e w9 ⟨rfl, m9, rfl⟩
              have HM9 := Lib.hid (HM8.out.drewN m9)
              clear HA HM8
              generalize w8.drewN m9 = w9 at HM9 ⊢
              obtain ⟨k0, k1, k2⟩ := K.out w9 HM9.out.bel
              have t8 : (x != x) = false := by simp
              go_wp2_with fail
              refine (IN.out _).mono ?_; rintro e w9 ⟨rfl, rfl⟩
              go_wp2_with fail
              go_roundw
              case rel => exact ⟨k + 1, by first | rfl | go_num, by omega, h4, x, HM9, HO4⟩
              case measure => simp [intOf]; omega
          · obtain ⟨c, hc, hC⟩ := take_not g r d h t x y hG
            have C := Lib.hid (hC wr.drew HM.out.bkt)
            have HO4 := HO
            clear hG hc hC
            have HMd := Lib.hid (HM.out.drewN 1)
            change Hid (Mem w wr.drew B g r d h t [] [] (.slice none 0 0) (.slice none 0 0)) at HMd
            clear HM HO
            go_wp2_with fail
            go_region_held3 (fun W' => W'.cell? ⟨d0, off0 + k, none⟩ = some (.slice (some ⟨bb, off, none⟩) 2 cr) ∧ W'.cell? ⟨bb, off, none⟩ = some (.int .i64 x) ∧ W'.cell? ⟨bb, off + 1, none⟩ = some (.int .i64 y))
              (first
                | exact ⟨k0, k1, k2⟩
                | exact K.out _ HM8.out.bel
                | go_keep)
              (first
                | (go_at_call 8; refine C.out.mono ?_; rintro e w8 ⟨rfl, rfl⟩
                   have HM8 := HMd))
            clear C k0 k1 k2 HMd
            generalize wr.drew = w8 at HM8 ⊢
            have HA := Lib.hid (has_any g r d h t w8 HM8.out.bkt)
            have HOI := HO4.out
            obtain ⟨o1, o2, o3, o4, o5, o6, o7, o8⟩ := HOI
            have IN := Lib.hid (fun W => Go.Proofs.Ytegbnldgbfbaaaa.Rtt.in_any h 0 d W true (in_true ⟨o5, o6⟩))
            clear o1 o2 o3 o4 o5 o6 o7 o8
            go_wp2_with fail
            refine HA.out.mono ?_; rintro e w9 ⟨rfl, m9, rfl⟩
            have HM9 := Lib.hid (HM8.out.drewN m9)
            clear HA HM8
            generalize w8.drewN m9 = w9 at HM9 ⊢
            obtain ⟨k0, k1, k2⟩ := K.out w9 HM9.out.bel
            have t8 : (x != x) = false := by simp
            go_wp2_with fail
            refine (IN.out _).mono ?_; rintro e w9 ⟨rfl, rfl⟩
            go_wp2_with fail
            go_roundw
            case rel => exact ⟨k + 1, by first | rfl | go_num, by omega, h, t, HM9, HO4⟩
            case measure => simp [intOf]; omega
        · have hrl : row.length ≤ 9223372036854775807 := hI.len_le
          have hq' := (HM.out.bel.cell (p := ⟨d0, off0 + k, none⟩) hd0).trans hq
          obtain ⟨m, hm⟩ : ∃ m, row.length = m := ⟨_, rfl⟩
          rw [hm] at hq' h2 hrl
          have t3 : ((m : Int) != 2) = true := by rw [bne_iff_ne]; omega
          have HO4 := HO
          clear hm hI hq hd0
          go_wp2_with fail
          go_roundw
          case rel => exact ⟨k + 1, by first | rfl | go_num, by omega, h, t, HM, HO4⟩
          case measure => simp [intOf]; omega
      · have t2 : decide ((k : Int) < 60) = false := decide_eq_false (by omega)
        have HA := Lib.hid (has_any g r d h t wr HM.out.bkt)
        have HOI := HO.out
        obtain ⟨o1, o2, o3, o4, o5, o6, o7, o8⟩ := HOI
        go_wp2_with fail
        refine HA.out.mono ?_; rintro e w9 ⟨rfl, m9, rfl⟩
        have HM9 := Lib.hid (HM.out.drewN m9)
        clear HA HM
        generalize wr.drewN m9 = w9 at HM9 ⊢
        by_cases hr0 : r = 0
        · have u1 : (r == 0) = true := by rw [beq_iff_eq]; exact hr0
          clear hr0
          go_wp2_with fail
          go_ret
          exact ⟨rfl, HM9.out.bel⟩
        · have u1 : (r == 0) = false := by rw [beq_eq_false_iff_ne]; exact hr0
          by_cases ht9 : 900 < t
          · have u2 : decide (900 < t) = true := decide_eq_true ht9
            clear hr0
            go_wp2_with fail
            go_ret
            exact ⟨rfl, HM9.out.bel⟩
          · have u2 : decide (900 < t) = false := decide_eq_false ht9
            have hG : GoodT t (t + 100) d := by unfold GoodT; omega
            have hf : fill d h (r * (t + 100 - t)) = d := fill_full o5 (by rw [show t + 100 - t = 100 by omega]; omega)
            have C := Lib.hid (take_yes g r d h t (t + 100) d HO.out hG (by rw [hf]; exact Int.le_refl _) w9 HM9.out.bkt)
            rw [hf, Int.sub_self] at C
            clear hr0 hf hG
            go_wp2_with fail
            refine C.out.mono ?_; rintro e w3 ⟨rfl, hT3, hg3⟩
            have HM3 := Lib.hid (HM9.out.call hT3 hg3)
            have HA := Lib.hid (has_any g r d 0 (t + 100) w3 HM3.out.bkt)
            clear hT3 hg3 HM9 C
            go_wp2_with fail
            refine HA.out.mono ?_; rintro e w4 ⟨rfl, m4, rfl⟩
            go_wp2_with fail
            go_ret
            exact ⟨by first | rfl | simp, bdrewN HM3.out.bel m4⟩
    · have t1 : decide ((k : Int) < (n : Int)) = false := decide_eq_false (by omega)
      have HA := Lib.hid (has_any g r d h t wr HM.out.bkt)
      have HOI := HO.out
      obtain ⟨o1, o2, o3, o4, o5, o6, o7, o8⟩ := HOI
      go_wp2_with fail
      refine HA.out.mono ?_; rintro e w9 ⟨rfl, m9, rfl⟩
      have HM9 := Lib.hid (HM.out.drewN m9)
      clear HA HM
      generalize wr.drewN m9 = w9 at HM9 ⊢
      by_cases hr0 : r = 0
      · have u1 : (r == 0) = true := by rw [beq_iff_eq]; exact hr0
        clear hr0
        go_wp2_with fail
        go_ret
        exact ⟨rfl, HM9.out.bel⟩
      · have u1 : (r == 0) = false := by rw [beq_eq_false_iff_ne]; exact hr0
        by_cases ht9 : 900 < t
        · have u2 : decide (900 < t) = true := decide_eq_true ht9
          clear hr0
          go_wp2_with fail
          go_ret
          exact ⟨rfl, HM9.out.bel⟩
        · have u2 : decide (900 < t) = false := decide_eq_false ht9
          have hG : GoodT t (t + 100) d := by unfold GoodT; omega
          have hf : fill d h (r * (t + 100 - t)) = d := fill_full o5 (by rw [show t + 100 - t = 100 by omega]; omega)
          have C := Lib.hid (take_yes g r d h t (t + 100) d HO.out hG (by rw [hf]; exact Int.le_refl _) w9 HM9.out.bkt)
          rw [hf, Int.sub_self] at C
          clear hr0 hf hG
          go_wp2_with fail
          refine C.out.mono ?_; rintro e w3 ⟨rfl, hT3, hg3⟩
          have HM3 := Lib.hid (HM9.out.call hT3 hg3)
          have HA := Lib.hid (has_any g r d 0 (t + 100) w3 HM3.out.bkt)
          clear hT3 hg3 HM9 C
          go_wp2_with fail
          refine HA.out.mono ?_; rintro e w4 ⟨rfl, m4, rfl⟩
          go_wp2_with fail
          go_ret
          exact ⟨by first | rfl | simp, bdrewN HM3.out.bel m4⟩

theorem reads : Try.f4.params.toList.all (fun t => Try.prog.readableRec t && decide (t < Try.prog.types.size)) = true := by kernel_rfl

theorem contract (H : Type) (enc : TypeId × Value → H) (W : World) (base : Nat) (args : Array Value) (ds gs : List (DataW H)) (before : List MemPlace)
    (hval : ∀ (j : Nat) t v, Try.f4.params[j]? = some t → args[j]? = some v → Value.okWide Try.prog W .any base t v)
    (hW : DataW.Whole enc Try.prog Try.f4.params.toList Rows.bucketFullSpec.vars false W args.toList ds gs before) :
    Calls Try.prog 4 args W fun e W' => ∃ v, e = .returned v ∧ Rows.bucketFullSpec.post enc Try.prog Try.f4 false true false false W args v W' := by
  have hW' := hW
  obtain ⟨p, q, hA0, hV, rfl, hfz, hnd⟩ := hW
  have hA : DataW.TrodAll enc Try.prog W 0 (fun _ => true) true Try.f4.params.toList args.toList ds p := hA0
  have hlt := hA.lt
  rw [Try.params4] at hA hval
  obtain ⟨v0, vs0, d0, ds0, p0, q0, hargs, rfl, rfl, h0, r0⟩ := trodAll_cons hA
  obtain ⟨v1, vs1, d1, ds1, p1, q1, hvs1, rfl, rfl, h1, r1⟩ := trodAll_cons r0
  obtain ⟨v2, vs2, d2, ds2, p2, q2, hvs2, rfl, rfl, h2, r2⟩ := trodAll_cons r1
  obtain ⟨hvsn, rfl, rfl⟩ := trodAll_nil r2
  simp only [hvsn, hvs2, hvs1] at hargs
  obtain rfl : args = #[v0, v1, v2] := by cases args; simp_all
  obtain ⟨rfl, rfl⟩ := trodVars_none hV
  clear hA0
  obtain ⟨a0, rfl, rfl, rfl, w0⟩ := open_int Try.underlying3 (hval 0 3 v0 rfl rfl) h0
  have b0 := bounds_int w0
  obtain ⟨a1, rfl, rfl, rfl, w1⟩ := open_int Try.underlying3 (hval 1 3 v1 rfl rfl) h1
  have b1 := bounds_int w1
  obtain ⟨p2a, cap2, l2, rfl, i2, e2⟩ := open_rows Try.underlying22 Try.underlying30 Try.underlying3 (by kernel_rfl) (by kernel_rfl) (hval 2 22 v2 rfl rfl) h2 (fun x hx => hlt x (by simp [hx]))
  exact law_post 4 laid reads rfl Try.underlying4 rfl hW' ⟨rfl, rfl, rfl⟩ (by
    by_cases h : (0 ≤ a0 ∧ a0 ≤ 20) ∧ (0 ≤ a1 ∧ a1 ≤ 100)
    · exact law_good a0 a1 _ _ _ l2 W rfl i2 h
    · exact law_bad a0 a1 _ _ _ W h)

set_option maxRecDepth 100000 in
theorem lifted (os : Os) (started : os.Started) (H : Type) (enc : TypeId × Value → H) :
    ReturnsInHanded {} Try.checked os 4 .any (Rows.bucketFullSpec.pre6 enc Try.prog Try.f4 Rows.bucketFullRow.domain false) (Rows.bucketFullSpec.post enc Try.prog Try.f4 false true false false) := by
  refine returnsInHanded_of_change (C := Try.checked) own started (by kernel_rfl) Try.func4
    (ChangeSpec.witness6 (enc := enc) (C := Try.checked) false ⟨#[], #[.int .i64 0, .int .i64 0, .slice none 0 0], []⟩ 8 (by kernel_rfl) (by kernel_rfl) (by kernel_rfl) (by kernel_rfl)) ?_
  intro W base args ds gs before hval hW _ _
  exact contract H enc W base args ds gs before hval hW

theorem proved : Rows.BucketFullSaid :=
  OpenClaim.holds_of_wide 4 Try.f4 rfl rfl rfl rfl rfl rfl rfl ⟨rfl, rfl, rfl, rfl, rfl⟩ rfl rfl rfl rfl rfl (by kernel_rfl) Try.func4 (by kernel_rfl)
    (of_decide_eq_true (by kernel_rfl)) (by unfold Func.isWrapper; first | (rw [if_pos (by decide +kernel)]; kernel_rfl) | (rw [if_neg (by decide +kernel)]; exact ⟨rfl, rfl⟩))
    (fun os started H enc _ => lifted os started H enc)
end Go.Proofs.Ytegbnldgbfbaaaa.BucketFullL
