/- CurveFold: min-plus convolution is commutative and associative and bounded by its arguments: for every input. No condition. -/
import Derived.Test.YtfinfdcpepiadaaCurveFact
import Derived.Test.YtfinfdcpepiadaaCurveMore
import Derived.BigQuiet
namespace Go.Proofs.Ytfinfdcpepiadaa.CurveFoldL
open Go.ChangeShapes Go.WideShapes Go.ChangeAt Go.RowKit Go.Proofs.Ytfinfdcpepiadaa.Kit Go.Proofs.Ytfinfdcpepiadaa.App Go.Proofs.Ytfinfdcpepiadaa.Err Go.Proofs.Ytfinfdcpepiadaa.Curve
set_option linter.unusedVariables false
set_option maxRecDepth 20000
set_option maxHeartbeats 2000000
abbrev Law (p q r : Option Addr) (n m k cp cq cr : Nat) (w : World) : Prop := Calls Try.prog 3 #[.slice p n cp, .slice q m cq, .slice r k cr] w fun e w' => e = .returned (.bool true) ∧ Below w.heap.size w w'
theorem law_bad (p q r : Option Addr) (n m k cp cq cr : Nat) (f g h : List Int) (w : World) (hn : n = f.length) (hm : m = g.length) (hk : k = h.length) (hf : Ints w p cp f) (hg : Ints w q cq g) (hh : Ints w r cr h) (h0 : two f g ≠ 0) : Law p q r n m k cp cq cr w := by
  have h1 : two g f ≠ 0 := fun h => h0 (two_zero.2 ⟨(two_zero.1 h).2.1, (two_zero.1 h).1, (two_zero.1 h).2.2.symm⟩)
  have FA := Lib.hid (fact_any w)
  have F1 := Lib.hid (fun W (hW : Below w.heap.size w W) => fold_bad p q cp cq n m f g W hn hm (hf.below hW) (hg.below hW) _ rfl h0)
  have F2 := Lib.hid (fun W (hW : Below w.heap.size w W) => fold_bad q p cq cp m n g f W hm hn (hg.below hW) (hf.below hW) _ rfl h1)
  rw [er_ne h0] at F1
  rw [er_ne h1] at F2
  clear hn hm hk hf hg hh h0 h1
  unfold Law
  go_enter Try.func3, Try.ntmps3
  go_wp2_with fail
  refine FA.out.mono ?_; rintro e w1 ⟨rfl, hb1⟩
  go_wp2_with fail
  refine (F1.out w1 hb1).mono ?_; rintro e w2 ⟨rfl, i2, rfl⟩
  have HB2 := Lib.hid (bdrewN hb1 i2)
  clear hb1
  generalize w1.drewN i2 = w2 at HB2 ⊢
  go_wp2_with fail
  refine (F2.out w2 HB2.out).mono ?_; rintro e w3 ⟨rfl, i3, rfl⟩
  have HB3 := Lib.hid (bdrewN HB2.out i3)
  generalize w2.drewN i3 = w3 at HB3 ⊢
  go_wp2_with fail
  go_ret
  exact ⟨by first | rfl | simp, HB3.out⟩
theorem law_good (bf of bg og : Nat) (r : Option Addr) (n k cp cq cr : Nat) (f g h : List Int) (w : World) (hn : n = f.length) (hm : n = g.length) (hk : k = h.length) (hf : Ints w (some ⟨bf, of, none⟩) cp f) (hg : Ints w (some ⟨bg, og, none⟩) cq g) (hh : Ints w r cr h) (gf : Curve.Good f) (gg : Curve.Good g) : Law (some ⟨bf, of, none⟩) (some ⟨bg, og, none⟩) r n n k cp cq cr w := by
  have hfg : f.length = g.length := by rw [← hn, ← hm]
  have FA := Lib.hid (fact_any w)
  obtain ⟨u, hu⟩ : ∃ u, fold f g = u := ⟨_, rfl⟩
  have hul : u.length = n := by rw [← hu, fold_len, hn]
  have F1 := Lib.hid (fun W (hW : Below w.heap.size w W) => fold_any _ _ cp cq n n f g W hn hm (hf.below hW) (hg.below hW) 0 (two_zero.2 ⟨gf, gg, hfg⟩) u hu n hul)
  have F2 := Lib.hid (fun W (hW : Below w.heap.size w W) => fold_any _ _ cq cp n n g f W hm hn (hg.below hW) (hf.below hW) 0 (two_zero.2 ⟨gg, gf, hfg.symm⟩) u (by rw [← hu]; exact (fold_comm hfg).symm) n hul)
  obtain ⟨c3, hc3⟩ : ∃ c3, two g h = c3 := ⟨_, rfl⟩
  obtain ⟨v, hv⟩ : ∃ v, (if c3 = 0 then fold g h else []) = v := ⟨_, rfl⟩
  obtain ⟨j, hj⟩ : ∃ j, v.length = j := ⟨_, rfl⟩
  have F3 := Lib.hid (fun W (hW : Below w.heap.size w W) => fold_any _ r cq cr n k g h W hm hk (hg.below hW) (hh.below hW) c3 hc3 v hv j hj)
  have F4 := Lib.hid (fun (h0 : c3 = 0) (h1 : one u = 0) (h2 : one v = 0) => (show ∃ x, ∀ (d e : Option Addr) (cd ce : Nat) (W : World), Below w.heap.size w W → Ints W d cd u → Ints W e ce v →
      (Calls Try.prog 9 #[.slice d n cd, .slice r k cr] W fun e w' => (∃ r cr, e = .returned (.tuple #[.slice r n cr, er 0]) ∧ Ints w' r cr x) ∧ Below W.heap.size W w') ∧
      (Calls Try.prog 9 #[.slice (some ⟨bf, of, none⟩) n cp, .slice e j ce] W fun e w' => (∃ r cr, e = .returned (.tuple #[.slice r n cr, er 0]) ∧ Ints w' r cr x) ∧ Below W.heap.size W w') ∧ x.length = n from by
    obtain ⟨_, gh, hgh⟩ := two_zero.1 (hc3.trans h0)
    rw [if_pos h0] at hv
    have hvl : v.length = g.length := by rw [← hv, fold_len]
    have hj2 : j = v.length := hj.symm
    refine ⟨fold u h, fun d e cd ce W hW hd he => ⟨?_, ?_, by rw [fold_len, hul]⟩⟩
    · exact fold_any d r cd cr n k u h W hul.symm hk hd (hh.below hW) 0 (two_zero.2 ⟨one_zero.1 h1, gh, by rw [hul, hm, hgh]⟩) _ rfl n (by rw [if_pos rfl, fold_len, hul])
    · exact fold_any _ e cp ce n j f v W hn hj2 (hf.below hW) he 0 (two_zero.2 ⟨gf, one_zero.1 h2, by rw [hvl, ← hfg]⟩) (fold u h) (by rw [if_pos rfl, ← hu, ← hv, fold_assoc hfg hgh]) n (by rw [fold_len, hul])))
  have h1 := gf.pos
  have h2 := gf.len
  rw [← hn] at h1 h2
  have CF := Lib.hid (fun W (hW : Below w.heap.size w W) k (hk : k < n) => cell_at (hf.below hW) k (by rw [← hn]; exact hk))
  have CG := Lib.hid (fun W (hW : Below w.heap.size w W) k (hk : k < n) => cell_at (hg.below hW) k (by rw [← hm]; exact hk))
  have K1 := Lib.hid (fun k (hk : k < n) => (show am u k ≤ am f k + am g 0 ∧ am u k ≤ am g k + am f 0 ∧ (∀ j, k = j + 1 → am u j ≤ am u k) ∧ 0 ≤ am u k ∧ am u k ≤ 2000 from by
    rw [← hu, fold_am (by omega)]
    have e1 := low_le (f := f) (g := g) (t := k) (s := k) (Nat.le_refl _)
    have e2 := low_le (f := f) (g := g) (t := k) (s := 0) (by omega)
    rw [Nat.sub_self] at e1
    rw [Nat.sub_zero] at e2
    refine ⟨e1, by omega, fun j hj => ?_, low_num gf gg k⟩
    subst hj
    rw [← fold_am (f := f) (g := g) (t := j + 1) (by omega)]
    exact fold_up gf gg hfg (by omega)))
  have HUL := Lib.hid hul
  have HJ := Lib.hid hj
  have GF := Lib.hid gf
  have GG := Lib.hid gg
  rw [er_0] at F1 F2 F4
  clear hn hm hk hf hg hh gf gg hfg hc3 hu hul hv hj
  unfold Law
  go_enter Try.func3, Try.ntmps3
  go_wp2_with fail
  refine FA.out.mono ?_; rintro e w1 ⟨rfl, hb1⟩
  have HB1 := Lib.hid hb1
  clear hb1 FA
  go_wp2_with fail
  refine (F1.out w1 HB1.out).mono ?_; rintro e w2 ⟨⟨p1, q1, rfl, hI1⟩, hb2⟩
  have HB2 := Lib.hid (bcall HB1.out hb2)
  have HI1 := Lib.hid hI1
  clear hI1 hb2 F1 HB1
  go_wp2_with fail
  refine (F2.out w2 HB2.out).mono ?_; rintro e w3 ⟨⟨p2, q2, rfl, hI2⟩, hb3⟩
  have HB3 := Lib.hid (bcall HB2.out hb3)
  have HI3 := Lib.hid (HI1.out.below hb3)
  have SM := Lib.hid (ints_any p1 p2 q1 q2 n n u u w3 HUL.out.symm HUL.out.symm HI3.out hI2 true (by simp))
  clear hI2 hb3 F2 HB2 HI1
  have t0 : ((n : Int) != (n : Int)) = false := by simp
  have t1 : ((n : Int) == 0) = false := by rw [beq_eq_false_iff_ne]; omega
  go_wp2_with fail
  refine SM.out.mono ?_; rintro e w4 ⟨rfl, hb4⟩
  have HB4 := Lib.hid (bcall HB3.out hb4)
  have HI4 := Lib.hid (HI3.out.below hb4)
  clear SM HB3 HI3 hb4
  obtain ⟨bu, ou, rfl⟩ := at_some HI4.out (by rw [HUL.out]; exact h1)
  have CU := Lib.hid (fun W (hW : Below w4.heap.size w4 W) k (hk : k < n) => cell_at (HI4.out.below hW) k (by rw [HUL.out]; exact hk))
  go_wp2_with fail
  have HB40 := Lib.hid (brefl w4)
  clear t0 t1
  go_loopw [12] (fun tv wr => ∃ t : Nat, t ≤ n ∧ tv = .int .i64 t ∧ Hid (Below w4.heap.size w4 wr)) (fun t _ => n - (intOf t).toNat)
  case atStart => exact ⟨0, Nat.zero_le _, rfl, HB40⟩
  case round =>
    obtain ⟨t, ht, rfl, HB5⟩ := hrel
    clear HB40
    have hB5 := bcall HB4.out HB5.out
    by_cases hlt : t < n
    · have u1 : decide ((t : Int) < (n : Int)) = true := decide_eq_true (by omega)
      have c1 := CU.out wr HB5.out t hlt
      have c2 := CF.out wr hB5 t hlt
      have c3 := CG.out wr hB5 0 h1
      have c4 := CG.out wr hB5 t hlt
      have c5 := CF.out wr hB5 0 h1
      rw [Nat.add_zero] at c3 c5
      obtain ⟨k1, k2, k3, k4, k5⟩ := K1.out t hlt
      have a1 := GF.out.num t
      have a2 := GG.out.num t
      have a3 := GF.out.num 0
      have a4 := GG.out.num 0
      by_cases h0 : t = 0
      · subst h0
        have u2 : decide (((0 : Nat) : Int) > 0) = false := by decide
        clear k3 hB5 c2 c4
        rw [Nat.add_zero] at c1
        generalize am f 0 = y at c5 a1 a3 k1 k2
        generalize am g 0 = z at c3 a2 a4 k1 k2
        generalize am u 0 = x at c1 k1 k2 k4 k5
        obtain ⟨a11, a12⟩ := a1
        obtain ⟨a21, a22⟩ := a2
        have u3 : decide (x > y + z) = false := decide_eq_false (by omega)
        have u4 : decide (x > z + y) = false := decide_eq_false (by omega)
        clear a3 a4 k1 k2
        go_wp2_with fail
        go_quiet (fail)
        go_wp2_with fail
        go_roundw
        case rel => exact ⟨0 + 1, by omega, by first | rfl | go_num, Lib.hid (below_drewN HB5.out _)⟩
        case measure => simp [intOf]; omega
      · obtain ⟨s, hs⟩ : ∃ s, t = s + 1 := ⟨t - 1, by omega⟩
        have u2 : decide ((t : Int) > 0) = true := decide_eq_true (by omega)
        have u6 : decide (0 < t) = true := decide_eq_true (by omega)
        have u7 : 0 < t := by omega
        have hs2 : (t : Int) - 1 = (s : Int) := by omega
        have hs3 : (s : Int) < (n : Int) := by omega
        have k6 := k3 s hs
        have c6 := CU.out wr HB5.out s (by omega)
        clear k3 hB5 hs
        generalize am f 0 = y0 at c5 a3 k2
        generalize am g 0 = z0 at c3 a4 k1
        generalize am f t = y at c2 a1 k1
        generalize am g t = z at c4 a2 k2
        generalize am u t = x at c1 k1 k2 k4 k5 k6
        generalize am u s = x1 at c6 k6
        obtain ⟨a11, a12⟩ := a1
        obtain ⟨a21, a22⟩ := a2
        obtain ⟨a31, a32⟩ := a3
        obtain ⟨a41, a42⟩ := a4
        have u3 : decide (x > y + z0) = false := decide_eq_false (by omega)
        have u4 : decide (x > z + y0) = false := decide_eq_false (by omega)
        have u5 : decide (x < x1) = false := decide_eq_false (by omega)
        have hw1 := wrap_in (n := y + z0) (by omega)
        have hw2 := wrap_in (n := z + y0) (by omega)
        clear k1 k2 k6
        go_wp2_with fail
        go_quiet (fail)
        go_wp2_with fail
        go_roundw
        case rel => exact ⟨t + 1, by omega, by first | rfl | go_num, Lib.hid (below_drewN HB5.out _)⟩
        case measure => simp [intOf]; omega
    · obtain rfl : t = n := by omega
      have u1 : decide ((t : Int) < (t : Int)) = false := decide_eq_false (by omega)
      clear K1 CF CG CU
      by_cases h0 : c3 = 0
      · subst h0
        rw [er_0] at F3
        go_wp2_with fail
        refine (F3.out wr hB5).mono ?_; rintro e w6 ⟨⟨p3, q3, rfl, hI6⟩, hb6⟩
        have HB6 := Lib.hid (bcall hB5 hb6)
        have HI6 := Lib.hid (And.intro (HI4.out.below (bcall HB5.out hb6)) hI6)
        clear hI6 hb6 hB5 HB5 F3 HB4 HI4
        obtain ⟨ca, hca⟩ : ∃ ca, one u = ca := ⟨_, rfl⟩
        have CA := Lib.hid (check_any _ q1 t u w6 HUL.out.symm HI6.out.1 ca hca)
        have HCA := Lib.hid hca
        clear hca
        by_cases h1 : ca = 0
        · subst h1
          rw [er_0] at CA
          go_wp2_with fail
          refine CA.out.mono ?_; rintro e w7 ⟨rfl, i7, rfl⟩
          have HB7 := Lib.hid (bdrewN HB6.out i7)
          have HI7 := Lib.hid (And.intro (HI6.out.1.below (bdrewN (brefl w6) i7)) (HI6.out.2.below (bdrewN (brefl w6) i7)))
          clear CA HB6 HI6
          generalize w6.drewN i7 = w7 at HB7 HI7 ⊢
          obtain ⟨cb, hcb⟩ : ∃ cb, one v = cb := ⟨_, rfl⟩
          have CB := Lib.hid (check_any p3 q3 j v w7 HJ.out.symm HI7.out.2 cb hcb)
          have HCB := Lib.hid hcb
          clear hcb
          by_cases h2 : cb = 0
          · subst h2
            rw [er_0] at CB
            obtain ⟨x, hx⟩ := F4.out (by first | rfl | trivial) HCA.out HCB.out
            have F5 := Lib.hid hx
            clear hx F4 HCA HCB
            go_wp2_with fail
            refine CB.out.mono ?_; rintro e w8 ⟨rfl, i8, rfl⟩
            have HB8 := Lib.hid (bdrewN HB7.out i8)
            have HI8 := Lib.hid (And.intro (HI7.out.1.below (bdrewN (brefl w7) i8)) (HI7.out.2.below (bdrewN (brefl w7) i8)))
            clear CB HB7 HI7
            generalize w7.drewN i8 = w8 at HB8 HI8 ⊢
            go_wp2_with fail
            refine (F5.out _ _ _ _ w8 HB8.out HI8.out.1 HI8.out.2).1.mono ?_; rintro e w9 ⟨⟨p9, q9, rfl, hI9⟩, hb9⟩
            have HB9 := Lib.hid (bcall HB8.out hb9)
            have HI9 := Lib.hid (And.intro (HI8.out.1.below hb9) (HI8.out.2.below hb9))
            have HX9 := Lib.hid hI9
            clear HB8 HI8 hI9 hb9
            go_wp2_with fail
            refine (F5.out _ _ _ _ w9 HB9.out HI9.out.1 HI9.out.2).2.1.mono ?_; rintro e w10 ⟨⟨p10, q10, rfl, hI10⟩, hb10⟩
            have HB10 := Lib.hid (bcall HB9.out hb10)
            have hxl := (F5.out _ _ _ _ w9 HB9.out HI9.out.1 HI9.out.2).2.2
            have SM := Lib.hid (ints_any p9 p10 q9 q10 t t x x w10 hxl.symm hxl.symm (HX9.out.below hb10) hI10 true (by simp))
            clear HB9 HI9 HX9 hI10 hb10 hxl
            go_wp2_with fail
            refine SM.out.mono ?_; rintro e w11 ⟨rfl, hb11⟩
            have HB11 := Lib.hid (bcall HB10.out hb11)
            clear SM HB10 hb11
            go_wp2_with fail
            go_ret
            exact ⟨by first | rfl | simp, HB11.out⟩
          · rw [er_ne h2] at CB
            go_wp2_with fail
            refine CB.out.mono ?_; rintro e w8 ⟨rfl, i8, rfl⟩
            have HB8 := Lib.hid (bdrewN HB7.out i8)
            go_wp2_with fail
            go_ret
            exact ⟨by first | rfl | simp, HB8.out⟩
        · rw [er_ne h1] at CA
          go_wp2_with fail
          refine CA.out.mono ?_; rintro e w7 ⟨rfl, i7, rfl⟩
          have HB7 := Lib.hid (bdrewN HB6.out i7)
          go_wp2_with fail
          go_ret
          exact ⟨by first | rfl | simp, HB7.out⟩
      · rw [er_ne h0] at F3
        go_wp2_with fail
        refine (F3.out wr hB5).mono ?_; rintro e w6 ⟨⟨p3, q3, rfl, hI6⟩, hb6⟩
        have HB6 := Lib.hid (bcall hB5 hb6)
        clear hI6 hb6 hB5 HB5
        go_wp2_with fail
        go_ret
        exact ⟨by first | rfl | simp, HB6.out⟩
theorem law_any (p q r : Option Addr) (n m k cp cq cr : Nat) (f g h : List Int) (w : World) (hn : n = f.length) (hm : m = g.length) (hk : k = h.length) (hf : Ints w p cp f) (hg : Ints w q cq g) (hh : Ints w r cr h) : Law p q r n m k cp cq cr w := by
  by_cases h0 : two f g = 0
  · obtain ⟨gf, gg, hl⟩ := two_zero.1 h0
    obtain rfl : n = m := by rw [hn, hm, hl]
    obtain ⟨b1, o1, rfl⟩ := at_some hf gf.pos
    obtain ⟨b2, o2, rfl⟩ := at_some hg gg.pos
    exact law_good b1 o1 b2 o2 r n k cp cq cr f g h w hn hm hk hf hg hh gf gg
  · exact law_bad p q r n m k cp cq cr f g h w hn hm hk hf hg hh h0

theorem reads : Try.f3.params.toList.all (fun t => Try.prog.readableRec t && decide (t < Try.prog.types.size)) = true := by kernel_rfl

theorem contract (H : Type) (enc : TypeId × Value → H) (W : World) (base : Nat) (args : Array Value) (ds gs : List (DataW H)) (before : List MemPlace)
    (hval : ∀ (j : Nat) t v, Try.f3.params[j]? = some t → args[j]? = some v → Value.okWide Try.prog W .any base t v)
    (hW : DataW.Whole enc Try.prog Try.f3.params.toList Rows.curveFoldSpec.vars false W args.toList ds gs before) :
    Calls Try.prog 3 args W fun e W' => ∃ v, e = .returned v ∧ Rows.curveFoldSpec.post enc Try.prog Try.f3 false true false false W args v W' := by
  have hW' := hW
  obtain ⟨p, q, hA0, hV, rfl, hfz, hnd⟩ := hW
  have hA : DataW.TrodAll enc Try.prog W 0 (fun _ => true) true Try.f3.params.toList args.toList ds p := hA0
  have hlt := hA.lt
  rw [Try.params3] at hA hval
  obtain ⟨v0, vs0, d0, ds0, p0, q0, hargs, rfl, rfl, h0, r0⟩ := trodAll_cons hA
  obtain ⟨v1, vs1, d1, ds1, p1, q1, hvs1, rfl, rfl, h1, r1⟩ := trodAll_cons r0
  obtain ⟨v2, vs2, d2, ds2, p2, q2, hvs2, rfl, rfl, h2, r2⟩ := trodAll_cons r1
  obtain ⟨hvsn, rfl, rfl⟩ := trodAll_nil r2
  simp only [hvsn, hvs2, hvs1] at hargs
  obtain rfl : args = #[v0, v1, v2] := by cases args; simp_all
  obtain ⟨rfl, rfl⟩ := trodVars_none hV
  clear hA0
  obtain ⟨p0a, cap0, l0, rfl, i0⟩ := open_intsl Try.underlying22 Try.underlying3 (by kernel_rfl) (hval 0 22 v0 rfl rfl) h0 (fun x hx => hlt x (by simp [hx]))
  obtain ⟨p1a, cap1, l1, rfl, i1⟩ := open_intsl Try.underlying22 Try.underlying3 (by kernel_rfl) (hval 1 22 v1 rfl rfl) h1 (fun x hx => hlt x (by simp [hx]))
  obtain ⟨p2a, cap2, l2, rfl, i2⟩ := open_intsl Try.underlying22 Try.underlying3 (by kernel_rfl) (hval 2 22 v2 rfl rfl) h2 (fun x hx => hlt x (by simp [hx]))
  exact law_post 4 laid reads rfl Try.underlying4 rfl hW' ⟨rfl, rfl, rfl⟩ (law_any _ _ _ _ _ _ cap0 cap1 cap2 l0 l1 l2 W rfl rfl rfl i0 i1 i2)

set_option maxRecDepth 100000 in
theorem lifted (os : Os) (started : os.Started) (H : Type) (enc : TypeId × Value → H) :
    ReturnsInHanded {} Try.checked os 3 .any (Rows.curveFoldSpec.pre6 enc Try.prog Try.f3 Rows.curveFoldRow.domain false) (Rows.curveFoldSpec.post enc Try.prog Try.f3 false true false false) := by
  refine returnsInHanded_of_change (C := Try.checked) own started (by kernel_rfl) Try.func3
    (ChangeSpec.witness6 (enc := enc) (C := Try.checked) false ⟨#[], #[.slice none 0 0, .slice none 0 0, .slice none 0 0], []⟩ 8 (by kernel_rfl) (by kernel_rfl) (by kernel_rfl) (by kernel_rfl)) ?_
  intro W base args ds gs before hval hW _ _
  exact contract H enc W base args ds gs before hval hW

theorem proved : Rows.CurveFoldSaid :=
  OpenClaim.holds_of_wide 3 Try.f3 rfl rfl rfl rfl rfl rfl rfl ⟨rfl, rfl, rfl, rfl, rfl⟩ rfl rfl rfl rfl rfl (by kernel_rfl) Try.func3 (by kernel_rfl)
    (of_decide_eq_true (by kernel_rfl)) (by unfold Func.isWrapper; first | (rw [if_pos (by decide +kernel)]; kernel_rfl) | (rw [if_neg (by decide +kernel)]; exact ⟨rfl, rfl⟩))
    (fun os started H enc _ => lifted os started H enc)
end Go.Proofs.Ytfinfdcpepiadaa.CurveFoldL
