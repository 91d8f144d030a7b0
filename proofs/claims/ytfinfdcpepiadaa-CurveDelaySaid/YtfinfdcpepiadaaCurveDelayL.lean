/- CurveDelay: the delay is bounded by the horizontal distance of arrival and service curve: for every input. No condition. -/
import Derived.Test.YtfinfdcpepiadaaCurveFact
import Derived.Test.YtfinfdcpepiadaaCurveMore
import Derived.BigQuiet
namespace Go.Proofs.Ytfinfdcpepiadaa.CurveDelayL
open Go.ChangeShapes Go.WideShapes Go.ChangeAt Go.RowKit Go.Proofs.Ytfinfdcpepiadaa.Kit Go.Proofs.Ytfinfdcpepiadaa.App Go.Proofs.Ytfinfdcpepiadaa.Err Go.Proofs.Ytfinfdcpepiadaa.Curve
set_option linter.unusedVariables false
set_option maxRecDepth 20000
set_option maxHeartbeats 2000000
abbrev Law (p q r : Option Addr) (n m k cp cq cr : Nat) (w : World) : Prop := Calls Try.prog 6 #[.slice p n cp, .slice q m cq, .slice r k cr] w fun e w' => e = .returned (.bool true) ∧ Below w.heap.size w w'
theorem law_any (p q r : Option Addr) (n m k cp cq cr : Nat) (f g h : List Int) (w : World) (hn : n = f.length) (hm : m = g.length) (hk : k = h.length) (hf : Ints w p cp f) (hg : Ints w q cq g) (hh : Ints w r cr h) : Law p q r n m k cp cq cr w := by
  have FA := Lib.hid (fact_any w)
  obtain ⟨c1, hc1⟩ : ∃ c1, two f g = c1 := ⟨_, rfl⟩
  obtain ⟨R, hR⟩ : ∃ R, (if c1 = 0 then under f g else false) = R := ⟨_, rfl⟩
  obtain ⟨c2, hc2⟩ : ∃ c2, two f h = c2 := ⟨_, rfl⟩
  obtain ⟨u, hu⟩ : ∃ u, (if c2 = 0 then fold f h else []) = u := ⟨_, rfl⟩
  obtain ⟨j, hj⟩ : ∃ j, u.length = j := ⟨_, rfl⟩
  have F1 := Lib.hid (fun W (hW : Below w.heap.size w W) => under_any p q cp cq n m f g W hn hm (hf.below hW) (hg.below hW) c1 hc1 R hR)
  have F2 := Lib.hid (fun W (hW : Below w.heap.size w W) => fold_any p r cp cr n k f h W hn hk (hf.below hW) (hh.below hW) c2 hc2 u hu j hj)
  obtain ⟨c3, hc3⟩ : ∃ c3, lates g h = c3 := ⟨_, rfl⟩
  obtain ⟨d, hd⟩ : ∃ d, (if c3 = 0 then waitTo g h m else 0) = d := ⟨_, rfl⟩
  have F3 := Lib.hid (fun W (hW : Below w.heap.size w W) => wait_any q r cq cr m k g h W hm hk (hg.below hW) (hh.below hW) c3 hc3 d hd)
  unfold Law
  by_cases h1 : c1 = 0
  · subst h1
    rw [er_0] at F1
    rw [if_pos rfl] at hR
    obtain ⟨gf, gg, hfg⟩ := two_zero.1 hc1
    by_cases h2 : c2 = 0
    · subst h2
      rw [er_0] at F2
      rw [if_pos rfl] at hu
      obtain ⟨_, gh, hfh⟩ := two_zero.1 hc2
      by_cases h3 : c3 = 0
      · subst h3
        rw [er_0] at F3
        rw [if_pos rfl] at hd
        cases R with
        | false =>
          clear hn hm hk hf hg hh hc1 hR hc2 hu hj hc3 hd gf gg gh hfg hfh
          go_enter Try.func6, Try.ntmps6
          go_wp2_with fail
          refine FA.out.mono ?_; rintro e w1 ⟨rfl, hb1⟩
          have HB1 := Lib.hid hb1
          clear hb1 FA
          go_wp2_with fail
          refine (F1.out w1 HB1.out).mono ?_; rintro e w2 ⟨rfl, i2, rfl⟩
          have HB2 := Lib.hid (bdrewN HB1.out i2)
          clear HB1
          generalize w1.drewN i2 = w2 at HB2 ⊢
          go_wp2_with fail
          refine (F2.out w2 HB2.out).mono ?_; rintro e w3 ⟨⟨pu, cu, rfl, hI3⟩, hb3⟩
          have HB3 := Lib.hid (bcall HB2.out hb3)
          have HI3 := Lib.hid hI3
          clear HB2 hI3 hb3 F1 F2
          go_wp2_with fail
          refine (F3.out w3 HB3.out).mono ?_; rintro e w4 ⟨rfl, i4, rfl⟩
          have HB4 := Lib.hid (bdrewN HB3.out i4)
          have HI4 := Lib.hid (show Ints (w3.drewN i4) pu cu u from HI3.out.below (bdrewN (brefl w3) i4))
          clear HB3 HI3 F3
          generalize w3.drewN i4 = w4 at HB4 HI4 ⊢
          go_wp2_with fail
          go_ret
          exact ⟨by first | rfl | simp, HB4.out⟩
        | true =>
          have hjn : j = n := by rw [← hj, ← hu, fold_len, hn]
          subst hjn
          have hl : late g h m = false := by
            unfold lates at hc3
            rw [if_neg (fun h => h (two_zero.2 ⟨gg, gh, by rw [← hfg, hfh]⟩))] at hc3
            by_cases hx : late g h g.length = true
            · rw [if_pos hx] at hc3; cases hc3
            · rw [hm]; exact Bool.not_eq_true _ ▸ hx
          have hd2 := wait_num (f := g) (g := h) (k := m)
          rw [hd] at hd2
          obtain ⟨d1, d2⟩ := hd2
          have hl16 := gf.len
          have hp := gf.pos
          rw [← hfh, ← hn] at d2
          rw [← hn] at hl16 hp
          have K := Lib.hid (fun (t x : Nat) (hx : (x : Int) = t + d) (hlt : x < j) => (show am f t ≤ am u x ∧ 0 ≤ am f t ∧ am f t ≤ 1000 from by
            refine ⟨?_, gf.num t⟩
            rw [← hu]
            have hm2 : m = f.length := by rw [hm, hfg]
            exact served_wait hR gf hfg hfh gh (by rw [← hm2]; exact hl) x (by rw [← hm2, hd]; exact hx) (by rw [← hn]; exact hlt)))
          have CF := Lib.hid (fun W (hW : Below w.heap.size w W) k (hk : k < j) => (show ∃ b o, p = some ⟨b, o, none⟩ ∧ W.cell? ⟨b, o + k, none⟩ = some (.int .i64 (am f k)) from by
            obtain ⟨b, o, rfl⟩ := at_some hf gf.pos
            exact ⟨b, o, rfl, cell_at (hf.below hW) k (by rw [← hn]; exact hk)⟩))
          have HJ := Lib.hid hj
          clear hl hn hm hk hf hg hh hc1 hR hc2 hu hj hc3 hd gf gg gh hfg hfh
          go_enter Try.func6, Try.ntmps6
          go_wp2_with fail
          refine FA.out.mono ?_; rintro e w1 ⟨rfl, hb1⟩
          have HB1 := Lib.hid hb1
          clear hb1 FA
          go_wp2_with fail
          refine (F1.out w1 HB1.out).mono ?_; rintro e w2 ⟨rfl, i2, rfl⟩
          have HB2 := Lib.hid (bdrewN HB1.out i2)
          clear HB1
          generalize w1.drewN i2 = w2 at HB2 ⊢
          go_wp2_with fail
          refine (F2.out w2 HB2.out).mono ?_; rintro e w3 ⟨⟨pu, cu, rfl, hI3⟩, hb3⟩
          have HB3 := Lib.hid (bcall HB2.out hb3)
          have HI3 := Lib.hid hI3
          clear HB2 hI3 hb3 F1 F2
          go_wp2_with fail
          refine (F3.out w3 HB3.out).mono ?_; rintro e w4 ⟨rfl, i4, rfl⟩
          have HB4 := Lib.hid (bdrewN HB3.out i4)
          have HI4 := Lib.hid (show Ints (w3.drewN i4) pu cu u from HI3.out.below (bdrewN (brefl w3) i4))
          clear HB3 HI3 F3
          generalize w3.drewN i4 = w4 at HB4 HI4 ⊢
          go_wp2_with fail
          have HR := Lib.hid (brefl w4)
          go_loopw [14] (fun tv wr => ∃ t : Nat, t ≤ j ∧ tv = .int .i64 t ∧ Hid (Below w4.heap.size w4 wr)) (fun t _ => j - (intOf t).toNat)
          case atStart => exact ⟨0, Nat.zero_le _, rfl, HR⟩
          case round =>
            obtain ⟨t, ht, rfl, HB5⟩ := hrel
            clear HR
            have hw1 := wrap_in (n := (t : Int) + d) (by omega)
            by_cases hlt : (t : Int) + d < (j : Int)
            · have u1 : decide ((t : Int) + d < (j : Int)) = true := decide_eq_true hlt
              obtain ⟨x, hx⟩ : ∃ x : Nat, (t : Int) + d = (x : Int) := ⟨((t : Int) + d).toNat, by omega⟩
              have hxj : x < j := by omega
              have htj : t < j := by omega
              have hK := K.out t x hx.symm hxj
              obtain ⟨bf, of, rfl, c1⟩ := CF.out wr (bcall HB4.out HB5.out) t htj
              have hIu := HI4.out.below HB5.out
              obtain ⟨bu, ou, rfl⟩ := at_some HI4.out (by rw [HJ.out]; exact hp)
              have c2 := cell_at hIu x (by rw [HJ.out]; exact hxj)
              have hxi : (x : Int) < (j : Int) := by omega
              clear hIu
              generalize am f t = y at c1 hK
              generalize am u x = z at c2 hK
              obtain ⟨k1, y1, y2⟩ := hK
              have u2 : decide (z < y) = false := decide_eq_false (by omega)
              clear k1 hlt
              go_wp2_with fail
              go_region
              go_wp2_with fail
              go_roundw
              case rel => exact ⟨t + 1, by omega, by first | rfl | go_num, Lib.hid (below_drewN HB5.out 1)⟩
              case measure => simp [intOf]; omega
            · have u1 : decide ((t : Int) + d < (j : Int)) = false := decide_eq_false hlt
              go_wp2_with fail
              go_ret
              exact ⟨by first | rfl | simp, bcall HB4.out HB5.out⟩
      · rw [er_ne h3] at F3
        clear hn hm hk hf hg hh hc1 hR hc2 hu hj hc3 hd gf gg gh hfg hfh
        go_enter Try.func6, Try.ntmps6
        go_wp2_with fail
        refine FA.out.mono ?_; rintro e w1 ⟨rfl, hb1⟩
        have HB1 := Lib.hid hb1
        clear hb1 FA
        go_wp2_with fail
        refine (F1.out w1 HB1.out).mono ?_; rintro e w2 ⟨rfl, i2, rfl⟩
        have HB2 := Lib.hid (bdrewN HB1.out i2)
        clear HB1
        generalize w1.drewN i2 = w2 at HB2 ⊢
        go_wp2_with fail
        refine (F2.out w2 HB2.out).mono ?_; rintro e w3 ⟨⟨pu, cu, rfl, hI3⟩, hb3⟩
        have HB3 := Lib.hid (bcall HB2.out hb3)
        have HI3 := Lib.hid hI3
        clear HB2 hI3 hb3 F1 F2
        go_wp2_with fail
        refine (F3.out w3 HB3.out).mono ?_; rintro e w4 ⟨rfl, i4, rfl⟩
        have HB4 := Lib.hid (bdrewN HB3.out i4)
        have HI4 := Lib.hid (show Ints (w3.drewN i4) pu cu u from HI3.out.below (bdrewN (brefl w3) i4))
        clear HB3 HI3 F3
        generalize w3.drewN i4 = w4 at HB4 HI4 ⊢
        go_wp2_with fail
        go_ret
        exact ⟨by first | rfl | simp, HB4.out⟩
    · rw [er_ne h2] at F2
      generalize er c3 = V at F3
      clear hn hm hk hf hg hh hc1 hR hc2 hu hj hc3 hd gf gg hfg
      go_enter Try.func6, Try.ntmps6
      go_wp2_with fail
      refine FA.out.mono ?_; rintro e w1 ⟨rfl, hb1⟩
      have HB1 := Lib.hid hb1
      clear hb1 FA
      go_wp2_with fail
      refine (F1.out w1 HB1.out).mono ?_; rintro e w2 ⟨rfl, i2, rfl⟩
      have HB2 := Lib.hid (bdrewN HB1.out i2)
      clear HB1
      generalize w1.drewN i2 = w2 at HB2 ⊢
      go_wp2_with fail
      refine (F2.out w2 HB2.out).mono ?_; rintro e w3 ⟨⟨pu, cu, rfl, hI3⟩, hb3⟩
      have HB3 := Lib.hid (bcall HB2.out hb3)
      have HI3 := Lib.hid hI3
      clear HB2 hI3 hb3 F1 F2
      go_wp2_with fail
      refine (F3.out w3 HB3.out).mono ?_; rintro e w4 ⟨rfl, i4, rfl⟩
      have HB4 := Lib.hid (bdrewN HB3.out i4)
      have HI4 := Lib.hid (show Ints (w3.drewN i4) pu cu u from HI3.out.below (bdrewN (brefl w3) i4))
      clear HB3 HI3 F3
      generalize w3.drewN i4 = w4 at HB4 HI4 ⊢
      go_wp2_with fail
      go_ret
      exact ⟨by first | rfl | simp, HB4.out⟩
  · rw [er_ne h1] at F1
    generalize er c2 = V at F2
    generalize er c3 = V3 at F3
    clear hn hm hk hf hg hh hc1 hR hc2 hu hj hc3 hd
    go_enter Try.func6, Try.ntmps6
    go_wp2_with fail
    refine FA.out.mono ?_; rintro e w1 ⟨rfl, hb1⟩
    have HB1 := Lib.hid hb1
    clear hb1 FA
    go_wp2_with fail
    refine (F1.out w1 HB1.out).mono ?_; rintro e w2 ⟨rfl, i2, rfl⟩
    have HB2 := Lib.hid (bdrewN HB1.out i2)
    clear HB1
    generalize w1.drewN i2 = w2 at HB2 ⊢
    go_wp2_with fail
    refine (F2.out w2 HB2.out).mono ?_; rintro e w3 ⟨⟨pu, cu, rfl, hI3⟩, hb3⟩
    have HB3 := Lib.hid (bcall HB2.out hb3)
    have HI3 := Lib.hid hI3
    clear HB2 hI3 hb3 F1 F2
    go_wp2_with fail
    refine (F3.out w3 HB3.out).mono ?_; rintro e w4 ⟨rfl, i4, rfl⟩
    have HB4 := Lib.hid (bdrewN HB3.out i4)
    have HI4 := Lib.hid (show Ints (w3.drewN i4) pu cu u from HI3.out.below (bdrewN (brefl w3) i4))
    clear HB3 HI3 F3
    generalize w3.drewN i4 = w4 at HB4 HI4 ⊢
    go_wp2_with fail
    go_ret
    exact ⟨by first | rfl | simp, HB4.out⟩

theorem reads : Try.f6.params.toList.all (fun t => Try.prog.readableRec t && decide (t < Try.prog.types.size)) = true := by kernel_rfl

theorem contract (H : Type) (enc : TypeId × Value → H) (W : World) (base : Nat) (args : Array Value) (ds gs : List (DataW H)) (before : List MemPlace)
    (hval : ∀ (j : Nat) t v, Try.f6.params[j]? = some t → args[j]? = some v → Value.okWide Try.prog W .any base t v)
    (hW : DataW.Whole enc Try.prog Try.f6.params.toList Rows.curveDelaySpec.vars false W args.toList ds gs before) :
    Calls Try.prog 6 args W fun e W' => ∃ v, e = .returned v ∧ Rows.curveDelaySpec.post enc Try.prog Try.f6 false true false false W args v W' := by
  have hW' := hW
  obtain ⟨p, q, hA0, hV, rfl, hfz, hnd⟩ := hW
  have hA : DataW.TrodAll enc Try.prog W 0 (fun _ => true) true Try.f6.params.toList args.toList ds p := hA0
  have hlt := hA.lt
  rw [Try.params6] at hA hval
  obtain ⟨v0, vs0, d0, ds0, p0, q0, hargs, rfl, rfl, h0, r0⟩ := trodAll_cons hA
  obtain ⟨v1, vs1, d1, ds1, p1, q1, hvs1, rfl, rfl, h1, r1⟩ := trodAll_cons r0
  obtain ⟨v2, vs2, d2, ds2, p2, q2, hvs2, rfl, rfl, h2, r2⟩ := trodAll_cons r1
  obtain ⟨hvsn, rfl, rfl⟩ := trodAll_nil r2
  simp only [hvsn, hvs2, hvs1] at hargs
  obtain rfl : args = #[v0, v1, v2] := by cases args; simp_all
  obtain ⟨rfl, rfl⟩ := trodVars_none hV
  clear hA0
  obtain ⟨p0a, cap0, l0, rfl, i0⟩ := open_intsl Try.underlying22 Try.underlying3 (by kernel_rfl) (hval 0 22 v0 rfl rfl) h0 (fun x hx => hlt x (by simp [hx]))
  obtain ⟨p1a, cap1, l1, rfl, i1⟩ := open_intsl Try.underlying22 Try.underlying3 (by kernel_rfl) (hval 1 22 v1 rfl rfl) h1 (fun x hx => hlt x (by simp [hx]))
  obtain ⟨p2a, cap2, l2, rfl, i2⟩ := open_intsl Try.underlying22 Try.underlying3 (by kernel_rfl) (hval 2 22 v2 rfl rfl) h2 (fun x hx => hlt x (by simp [hx]))
  exact law_post 4 laid reads rfl Try.underlying4 rfl hW' ⟨rfl, rfl, rfl⟩ (law_any _ _ _ _ _ _ cap0 cap1 cap2 l0 l1 l2 W rfl rfl rfl i0 i1 i2)

set_option maxRecDepth 100000 in
theorem lifted (os : Os) (started : os.Started) (H : Type) (enc : TypeId × Value → H) :
    ReturnsInHanded {} Try.checked os 6 .any (Rows.curveDelaySpec.pre6 enc Try.prog Try.f6 Rows.curveDelayRow.domain false) (Rows.curveDelaySpec.post enc Try.prog Try.f6 false true false false) := by
  refine returnsInHanded_of_change (C := Try.checked) own started (by kernel_rfl) Try.func6
    (ChangeSpec.witness6 (enc := enc) (C := Try.checked) false ⟨#[], #[.slice none 0 0, .slice none 0 0, .slice none 0 0], []⟩ 8 (by kernel_rfl) (by kernel_rfl) (by kernel_rfl) (by kernel_rfl)) ?_
  intro W base args ds gs before hval hW _ _
  exact contract H enc W base args ds gs before hval hW

theorem proved : Rows.CurveDelaySaid :=
  OpenClaim.holds_of_wide 6 Try.f6 rfl rfl rfl rfl rfl rfl rfl ⟨rfl, rfl, rfl, rfl, rfl⟩ rfl rfl rfl rfl rfl (by kernel_rfl) Try.func6 (by kernel_rfl)
    (of_decide_eq_true (by kernel_rfl)) (by unfold Func.isWrapper; first | (rw [if_pos (by decide +kernel)]; kernel_rfl) | (rw [if_neg (by decide +kernel)]; exact ⟨rfl, rfl⟩))
    (fun os started H enc _ => lifted os started H enc)
end Go.Proofs.Ytfinfdcpepiadaa.CurveDelayL
