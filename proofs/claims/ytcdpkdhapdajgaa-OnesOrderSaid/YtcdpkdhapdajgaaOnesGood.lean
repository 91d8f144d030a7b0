/- Bytes followed by their checksum are valid, and changing one byte makes them invalid: the law returns true for every input. No condition. -/
import Derived.Test.YtcdpkdhapdajgaaOnesMath
namespace Go.Proofs.Ytcdpkdhapdajgaa.onesGoodP
open Go.ChangeShapes Go.WideShapes Go.ChangeAt Go.RowKit
open Go.Proofs.Ytcdpkdhapdajgaa.Kit Go.Proofs.Ytcdpkdhapdajgaa.Ones Go.Proofs.Ytcdpkdhapdajgaa.App Go.Proofs.Ytcdpkdhapdajgaa.LawOnes Go.Proofs.Ytcdpkdhapdajgaa.OnesMath
set_option linter.unusedVariables false

theorem good_n (n : Nat) (p : Option Addr) (cap : Nat) (zs : List Int) (w : World) (hn0 : n = zs.length) (h : Ints w p cap zs) (hn : zs.length ≤ 600) (hby : wthn zs 255 = true) :
    Calls Try.prog 12 #[.slice p n cap] w fun e w' => e = .returned (.tuple #[.bool (onesum zs == 65535), .nilIface]) ∧ Below w.heap.size w w' := by
  subst hn0; exact good_ok p cap zs w h hn hby
theorem behind_n (n : Nat) (p : Option Addr) (cap : Nat) (l : List Int) (x : Int) (w : World) (hn0 : n = l.length) (h : Ints w p cap l) (hl : l.length ≤ 700) (hx : (Lit.int .i64 x).wf = true) :
    Calls Try.prog 11 #[.slice p n cap, .int .i64 x] w fun e w' => ∃ p' cap', e = .returned (.slice p' (l.length + 1) cap') ∧ Ints w' p' cap' (l ++ [x]) ∧ Below w.heap.size w w' := by
  subst hn0
  refine (behind_any p cap l x w h hl hx).mono ?_
  rintro e w' ⟨v, rfl, ho, hb⟩
  obtain ⟨p', cap', rfl, hi⟩ := ho.form
  exact ⟨p', cap', by simp, hi, hb⟩
theorem set_n (n : Nat) (p : Option Addr) (cap : Nat) (l : List Int) (i : Nat) (x : Int) (w : World) (hn0 : n = l.length) (h : Ints w p cap l) (hl : l.length ≤ 700) (hi : i < l.length) (hx : (Lit.int .i64 x).wf = true) :
    Calls Try.prog 13 #[.slice p n cap, .int .i64 i, .int .i64 x] w fun e w' => ∃ p' cap', e = .returned (.slice p' n cap') ∧ Ints w' p' cap' (l.set i x) ∧ Below w.heap.size w w' := by
  subst hn0
  refine (set_any p cap l i x w h hl hi hx).mono ?_
  rintro e w' ⟨v, rfl, ho, hb⟩
  obtain ⟨p', cap', rfl, hi⟩ := ho.form
  exact ⟨p', cap', by simp, hi, hb⟩
theorem wf_small {x : Int} (h : -1000000 ≤ x ∧ x ≤ 1000000) : (Lit.int .i64 x).wf = true := by
  simp [Lit.wf, IntKind.min, IntKind.max, IntKind.signed, IntKind.bits]; omega

theorem law_bad (p : Option Addr) (cap : Nat) (l : List Int) (i x : Int) (w : World) (h : Ints w p cap l) (hb : bad l ≠ 0) :
    Calls Try.prog 4 #[.slice p l.length cap, .int .i64 i, .int .i64 x] w fun e w' => e = .returned (.bool true) ∧ Below w.heap.size w w' := by
  have hlen := h.len_le
  go_enter Try.func4, Try.ntmps4
  go_wp2_with (first
    | (go_at_call 8; refine (fact_any _).mono ?_; rintro e w1 ⟨rfl, hb1⟩)
    | (go_at_call 9; refine (sum_bad p cap l w1 (h.below hb1) hb).mono ?_; rintro e w2 ⟨rfl, rfl⟩))
  go_ret
  exact ⟨rfl, hb1⟩

theorem bad_zero {l : List Int} (hb : ¬ bad l ≠ 0) : l.length ≤ 600 ∧ wthn l 255 = true := by
  unfold bad at hb
  by_cases h1 : 600 < l.length
  · simp [h1] at hb
  · cases h2 : wthn l 255 with
    | true => exact ⟨by omega, rfl⟩
    | false => simp [h1, h2] at hb

theorem law_odd (p : Option Addr) (cap : Nat) (l : List Int) (i x : Int) (w : World) (h : Ints w p cap l) (hn : l.length ≤ 600) (hby : wthn l 255 = true) (ho : l.length % 2 = 1 ∨ 598 < l.length) :
    Calls Try.prog 4 #[.slice p l.length cap, .int .i64 i, .int .i64 x] w fun e w' => e = .returned (.bool true) ∧ Below w.heap.size w w' := by
  have hr := onesum_range hby
  have s1 := fun W (hh : Ints W p cap l) => sum_ok p cap l W hh hn hby
  generalize onesum l = s at hr s1
  have S1 := Lib.hid s1
  clear s1 hby
  by_cases h1 : l.length % 2 = 1
  · have t1 : (((l.length % 2 : Nat) : Int) == 1) = true := by rw [h1]; rfl
    have t2 : ((l.length : Int) % 2 == 1) = true := by rw [beq_iff_eq]; omega
    clear ho h1
    go_enter Try.func4, Try.ntmps4
    go_wp2_with (first
      | (go_at_call 8; refine (fact_any _).mono ?_; rintro e w1 ⟨rfl, hb1⟩)
      | (go_at_call 9; refine (S1.out w1 (h.below hb1)).mono ?_; rintro e w2 ⟨rfl, hb2⟩))
    go_ret
    exact ⟨rfl, bcall hb1 hb2⟩
  · have t1 : ((l.length : Int) % 2 == 1) = false := by rw [beq_eq_false_iff_ne]; omega
    have t2 : 598 < l.length := by omega
    clear ho h1
    go_enter Try.func4, Try.ntmps4
    go_wp2_with (first
      | (go_at_call 8; refine (fact_any _).mono ?_; rintro e w1 ⟨rfl, hb1⟩)
      | (go_at_call 9; refine (S1.out w1 (h.below hb1)).mono ?_; rintro e w2 ⟨rfl, hb2⟩))
    go_ret
    exact ⟨rfl, bcall hb1 hb2⟩

set_option maxHeartbeats 1000000 in
theorem law_even (p : Option Addr) (cap : Nat) (l : List Int) (i x : Int) (w : World) (h : Ints w p cap l) (hn : l.length ≤ 598) (hby : wthn l 255 = true) (he : l.length % 2 = 0) :
    Calls Try.prog 4 #[.slice p l.length cap, .int .i64 i, .int .i64 x] w fun e w' => e = .returned (.bool true) ∧ Below w.heap.size w w' := by
  have hr := onesum_range hby
  obtain ⟨n, en⟩ : ∃ n, 65535 - onesum l = n := ⟨_, rfl⟩
  have hg := good_all hby he en.symm
  have s1 := fun W (hh : Ints W p cap l) => sum_ok p cap l W hh (by omega) hby
  rw [en] at s1
  have hn0 : 0 ≤ n := by omega
  have hn1 : n ≤ 65535 := by omega
  have hq1 : 0 ≤ n / 256 ∧ n / 256 ≤ 255 := by omega
  have hq2 : 0 ≤ n % 256 ∧ n % 256 ≤ 255 := by omega
  obtain ⟨all, hall⟩ : ∃ all, l ++ [n / 256] ++ [n % 256] = all := ⟨_, rfl⟩
  have hlenall : all.length = l.length + 1 + 1 := by rw [← hall]; simp
  have s2 := fun W p' c' (hh : Ints W p' c' (l ++ [n / 256])) => behind_n (l.length + 1) p' c' (l ++ [n / 256]) (n % 256) W (by simp) hh (by simp; omega) (wf_small (by omega))
  rw [hall] at hg s2
  have s3 := fun W p' c' (hh : Ints W p' c' all) => good_n (l.length + 1 + 1) p' c' all W hlenall.symm hh (by omega) hg.1
  rw [hg.2] at s3
  have eb : ((65535 : Int) == 65535) = true := rfl
  rw [eb] at s3
  have hG := Lib.hid hg
  have S1 := Lib.hid s1
  have S2 := Lib.hid s2
  have S3 := Lib.hid s3
  have HL := Lib.hid hlenall
  clear s1 s2 s3 hr en hby hall eb hlenall hg
  have t1 : ((l.length : Int) % 2 == 1) = false := by rw [beq_eq_false_iff_ne]; omega
  by_cases c1 : 0 ≤ i ∧ i ≤ (l.length : Int) + 1
  · by_cases c2 : 0 ≤ x ∧ x ≤ 255
    · obtain ⟨j, rfl⟩ := Int.eq_ofNat_of_zero_le c1.1
      have hj : j < l.length + 1 + 1 := by omega
      by_cases c3 : all[j]?.getD 0 = x
      · clear he
        go_enter Try.func4, Try.ntmps4
        go_wp2_with fail
        refine (fact_any _).mono ?_; rintro e w1 ⟨rfl, hb1⟩
        go_wp2_with fail
        refine (S1.out w1 (h.below hb1)).mono ?_; rintro e w2 ⟨rfl, hb2⟩
        go_wp2_with fail
        refine (in_yes n 0 65535 _ ⟨hn0, hn1⟩).mono ?_; rintro e w3 ⟨rfl, rfl⟩
        go_wp2_with fail
        refine (behind_n _ p cap l _ _ rfl (h.below (bcall hb1 hb2)) (by omega) (wf_small (by omega))).mono ?_; rintro e w3 ⟨p3, cap3, rfl, hi3, hb3⟩
        go_wp2_with fail
        refine (S2.out _ _ _ hi3).mono ?_; rintro e w4 ⟨p4, cap4, rfl, hi4, hb4⟩
        go_wp2_with fail
        refine (S3.out _ _ _ hi4).mono ?_; rintro e w5 ⟨rfl, hb5⟩
        have hB := bcall (bcall (bcall (bcall hb1 hb2) hb3) hb4) hb5
        have hi5 := hi4.below hb5
        obtain ⟨b, off, rfl, hbw, hc⟩ := hi5.2.2.2 (by have := HL.out; omega)
        have hcj := hc j (by have := HL.out; omega)
        clear hc
        rw [c3] at hcj
        clear c3
        have t3 : (x == x) = true := beq_self_eq_true x
        go_wp2_with fail
        refine (in_yes _ 0 _ _ (by omega)).mono ?_; rintro e w6 ⟨rfl, rfl⟩
        go_wp2_with fail
        refine (in_yes _ 0 _ _ (by omega)).mono ?_; rintro e w6 ⟨rfl, rfl⟩
        go_wp2_with fail
        go_ret
        exact ⟨rfl, hB⟩
      · have hbs := bad_set hG.out.1 hG.out.2 (show j < all.length by have := HL.out; omega) c2 c3
        have s4 := fun W p' c' (hh : Ints W p' c' (all.set j x)) => good_n (l.length + 1 + 1) p' c' _ W (by have := HL.out; simp; omega) hh (by have := HL.out; simp; omega) hbs.1
        have e4 : (onesum (all.set j x) == 65535) = false := by rw [beq_eq_false_iff_ne]; exact hbs.2
        rw [e4] at s4
        have S4 := Lib.hid s4
        clear s4 e4 hbs he
        obtain ⟨y, ey⟩ : ∃ y, all[j]?.getD 0 = y := ⟨_, rfl⟩
        have t3 : (y == x) = false := by rw [beq_eq_false_iff_ne, ← ey]; exact c3
        have Ey := Lib.hid ey
        clear ey c3
        go_enter Try.func4, Try.ntmps4
        go_wp2_with fail
        refine (fact_any _).mono ?_; rintro e w1 ⟨rfl, hb1⟩
        go_wp2_with fail
        refine (S1.out w1 (h.below hb1)).mono ?_; rintro e w2 ⟨rfl, hb2⟩
        go_wp2_with fail
        refine (in_yes n 0 65535 _ ⟨hn0, hn1⟩).mono ?_; rintro e w3 ⟨rfl, rfl⟩
        go_wp2_with fail
        refine (behind_n _ p cap l _ _ rfl (h.below (bcall hb1 hb2)) (by omega) (wf_small (by omega))).mono ?_; rintro e w3 ⟨p3, cap3, rfl, hi3, hb3⟩
        go_wp2_with fail
        refine (S2.out _ _ _ hi3).mono ?_; rintro e w4 ⟨p4, cap4, rfl, hi4, hb4⟩
        go_wp2_with fail
        refine (S3.out _ _ _ hi4).mono ?_; rintro e w5 ⟨rfl, hb5⟩
        have hB := bcall (bcall (bcall (bcall hb1 hb2) hb3) hb4) hb5
        have hi5 := hi4.below hb5
        obtain ⟨b, off, rfl, hbw, hc⟩ := hi5.2.2.2 (by have := HL.out; omega)
        have hcj := hc j (by have := HL.out; omega)
        clear hc
        rw [Ey.out] at hcj
        go_wp2_with fail
        refine (in_yes _ 0 _ _ (by omega)).mono ?_; rintro e w6 ⟨rfl, rfl⟩
        go_wp2_with fail
        refine (in_yes _ 0 _ _ (by omega)).mono ?_; rintro e w6 ⟨rfl, rfl⟩
        go_wp2_with fail
        refine (set_n _ _ _ all j x _ HL.out.symm hi5 (by have := HL.out; omega) (by have := HL.out; omega) (wf_small (by omega))).mono ?_; rintro e w6 ⟨p6, cap6, rfl, hi6, hb6⟩
        go_wp2_with fail
        refine (S4.out _ _ _ hi6).mono ?_; rintro e w7 ⟨rfl, hb7⟩
        go_wp2_with fail
        go_ret
        exact ⟨rfl, bcall (bcall hB hb6) hb7⟩
    · obtain ⟨j, rfl⟩ := Int.eq_ofNat_of_zero_le c1.1
      have hj : j < l.length + 1 + 1 := by omega
      clear he
      go_enter Try.func4, Try.ntmps4
      go_wp2_with fail
      refine (fact_any _).mono ?_; rintro e w1 ⟨rfl, hb1⟩
      go_wp2_with fail
      refine (S1.out w1 (h.below hb1)).mono ?_; rintro e w2 ⟨rfl, hb2⟩
      go_wp2_with fail
      refine (in_yes n 0 65535 _ ⟨hn0, hn1⟩).mono ?_; rintro e w3 ⟨rfl, rfl⟩
      go_wp2_with fail
      refine (behind_n _ p cap l _ _ rfl (h.below (bcall hb1 hb2)) (by omega) (wf_small (by omega))).mono ?_; rintro e w3 ⟨p3, cap3, rfl, hi3, hb3⟩
      go_wp2_with fail
      refine (S2.out _ _ _ hi3).mono ?_; rintro e w4 ⟨p4, cap4, rfl, hi4, hb4⟩
      go_wp2_with fail
      refine (S3.out _ _ _ hi4).mono ?_; rintro e w5 ⟨rfl, hb5⟩
      have hB := bcall (bcall (bcall (bcall hb1 hb2) hb3) hb4) hb5
      have hi5 := hi4.below hb5
      go_wp2_with fail
      refine (in_yes _ 0 _ _ (by omega)).mono ?_; rintro e w6 ⟨rfl, rfl⟩
      go_wp2_with fail
      refine (in_no _ 0 _ _ c2).mono ?_; rintro e w6 ⟨rfl, rfl⟩
      go_wp2_with fail
      go_ret
      exact ⟨rfl, hB⟩
  · clear he
    go_enter Try.func4, Try.ntmps4
    go_wp2_with fail
    refine (fact_any _).mono ?_; rintro e w1 ⟨rfl, hb1⟩
    go_wp2_with fail
    refine (S1.out w1 (h.below hb1)).mono ?_; rintro e w2 ⟨rfl, hb2⟩
    go_wp2_with fail
    refine (in_yes n 0 65535 _ ⟨hn0, hn1⟩).mono ?_; rintro e w3 ⟨rfl, rfl⟩
    go_wp2_with fail
    refine (behind_n _ p cap l _ _ rfl (h.below (bcall hb1 hb2)) (by omega) (wf_small (by omega))).mono ?_; rintro e w3 ⟨p3, cap3, rfl, hi3, hb3⟩
    go_wp2_with fail
    refine (S2.out _ _ _ hi3).mono ?_; rintro e w4 ⟨p4, cap4, rfl, hi4, hb4⟩
    go_wp2_with fail
    refine (S3.out _ _ _ hi4).mono ?_; rintro e w5 ⟨rfl, hb5⟩
    have hB := bcall (bcall (bcall (bcall hb1 hb2) hb3) hb4) hb5
    have hi5 := hi4.below hb5
    go_wp2_with fail
    refine (in_no _ 0 _ _ (by omega)).mono ?_; rintro e w6 ⟨rfl, rfl⟩
    go_wp2_with fail
    go_ret
    exact ⟨rfl, hB⟩

theorem law (p : Option Addr) (cap : Nat) (l : List Int) (i x : Int) (w : World) (h : Ints w p cap l) :
    Calls Try.prog 4 #[.slice p l.length cap, .int .i64 i, .int .i64 x] w fun e w' => e = .returned (.bool true) ∧ Below w.heap.size w w' := by
  by_cases hb : bad l ≠ 0
  · exact law_bad p cap l i x w h hb
  · obtain ⟨hn, hby⟩ := bad_zero hb
    by_cases ho : l.length % 2 = 1 ∨ 598 < l.length
    · exact law_odd p cap l i x w h hn hby ho
    · exact law_even p cap l i x w h (by omega) hby (by omega)

theorem reads : Try.f4.params.toList.all (fun t => Try.prog.readableRec t && decide (t < Try.prog.types.size)) = true := by kernel_rfl

theorem contract (H : Type) (enc : TypeId × Value → H) (W : World) (base : Nat) (args : Array Value) (ds gs : List (DataW H)) (before : List MemPlace)
    (hval : ∀ (j : Nat) t v, Try.f4.params[j]? = some t → args[j]? = some v → Value.okWide Try.prog W .any base t v)
    (hW : DataW.Whole enc Try.prog Try.f4.params.toList Rows.onesGoodSpec.vars false W args.toList ds gs before) :
    Calls Try.prog 4 args W fun e W' => ∃ v, e = .returned v ∧ Rows.onesGoodSpec.post enc Try.prog Try.f4 false true false false W args v W' := by
  have hW' := hW
  obtain ⟨p, q, hA0, hV, rfl, hfz, hnd⟩ := hW
  have hA : DataW.TrodAll enc Try.prog W 0 (fun _ => true) true Try.f4.params.toList args.toList ds p := hA0
  have hlt := hA.lt
  rw [Try.params4] at hA hval
  obtain ⟨v0, vs0, d0, ds0, p0, q0, hargs, rfl, rfl, h0, r0⟩ := trodAll_cons hA
  obtain ⟨v1, vs1, d1, ds1, p1, q1, hvs1, rfl, rfl, h1, r1⟩ := trodAll_cons r0
  obtain ⟨v2, vs2, d2, ds2, p2, q2, hvs2, rfl, rfl, h2, r2⟩ := trodAll_cons r1
  obtain ⟨hvsn, rfl, rfl⟩ := trodAll_nil r2
  simp only [hvsn, hvs2, hvs1] at hargs
  obtain rfl : args = #[v0, v1, v2] := by cases args; simp_all
  obtain ⟨rfl, rfl⟩ := trodVars_none hV
  clear hA0
  obtain ⟨p0a, cap0, l0, rfl, i0⟩ := open_intsl Try.underlying26 Try.underlying3 (by kernel_rfl) (hval 0 26 v0 rfl rfl) h0 (fun x hx => hlt x (by simp [hx]))
  obtain ⟨a1, rfl, rfl, rfl, w1⟩ := open_int Try.underlying3 (hval 1 3 v1 rfl rfl) h1
  have b1 := bounds_int w1
  obtain ⟨a2, rfl, rfl, rfl, w2⟩ := open_int Try.underlying3 (hval 2 3 v2 rfl rfl) h2
  have b2 := bounds_int w2
  exact law_post 4 laid reads rfl Try.underlying4 rfl hW' ⟨rfl, rfl, rfl⟩ (law p0a cap0 l0 a1 a2 W i0)

set_option maxRecDepth 100000 in
theorem lifted (os : Os) (started : os.Started) (H : Type) (enc : TypeId × Value → H) :
    ReturnsInHanded {} Try.checked os 4 .any (Rows.onesGoodSpec.pre6 enc Try.prog Try.f4 Rows.onesGoodRow.domain false) (Rows.onesGoodSpec.post enc Try.prog Try.f4 false true false false) := by
  refine returnsInHanded_of_change (C := Try.checked) own started (by kernel_rfl) Try.func4
    (ChangeSpec.witness6 (enc := enc) (C := Try.checked) false ⟨#[], #[.slice none 0 0, .int .i64 0, .int .i64 0], []⟩ 8 (by kernel_rfl) (by kernel_rfl) (by kernel_rfl) (by kernel_rfl)) ?_
  intro W base args ds gs before hval hW _ _
  exact contract H enc W base args ds gs before hval hW

theorem proved : Rows.OnesGoodSaid :=
  OpenClaim.holds_of_wide 4 Try.f4 rfl rfl rfl rfl rfl rfl rfl ⟨rfl, rfl, rfl, rfl, rfl⟩ rfl rfl rfl rfl rfl (by kernel_rfl) Try.func4 (by kernel_rfl)
    (of_decide_eq_true (by kernel_rfl)) (by unfold Func.isWrapper; first | (rw [if_pos (by decide +kernel)]; kernel_rfl) | (rw [if_neg (by decide +kernel)]; exact ⟨rfl, rfl⟩))
    (fun os started H enc _ => lifted os started H enc)
end Go.Proofs.Ytcdpkdhapdajgaa.onesGoodP
