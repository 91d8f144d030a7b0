/- CurveServed: the backlog is bounded by the vertical distance of arrival and service curve: for every input. No condition. -/
import Derived.Test.YtfinfdcpepiadaaCurveFact
import Derived.Test.YtfinfdcpepiadaaCurveMore
import Derived.BigQuiet
namespace Go.Proofs.Ytfinfdcpepiadaa.CurveServedL
open Go.ChangeShapes Go.WideShapes Go.ChangeAt Go.RowKit Go.Proofs.Ytfinfdcpepiadaa.Kit Go.Proofs.Ytfinfdcpepiadaa.App Go.Proofs.Ytfinfdcpepiadaa.Err Go.Proofs.Ytfinfdcpepiadaa.Curve
set_option linter.unusedVariables false
set_option maxRecDepth 20000
set_option maxHeartbeats 2000000
abbrev Law (p q r : Option Addr) (n m k cp cq cr : Nat) (w : World) : Prop := Calls Try.prog 5 #[.slice p n cp, .slice q m cq, .slice r k cr] w fun e w' => e = .returned (.bool true) ∧ Below w.heap.size w w'
theorem law_any (p q r : Option Addr) (n m k cp cq cr : Nat) (f g h : List Int) (w : World) (hn : n = f.length) (hm : m = g.length) (hk : k = h.length) (hf : Ints w p cp f) (hg : Ints w q cq g) (hh : Ints w r cr h) : Law p q r n m k cp cq cr w := by
  have FA := Lib.hid (fact_any w)
  obtain ⟨c1, hc1⟩ : ∃ c1, two f g = c1 := ⟨_, rfl⟩
  obtain ⟨R, hR⟩ : ∃ R, (if c1 = 0 then under f g else false) = R := ⟨_, rfl⟩
  obtain ⟨c2, hc2⟩ : ∃ c2, two f h = c2 := ⟨_, rfl⟩
  obtain ⟨u, hu⟩ : ∃ u, (if c2 = 0 then fold f h else []) = u := ⟨_, rfl⟩
  obtain ⟨j, hj⟩ : ∃ j, u.length = j := ⟨_, rfl⟩
  have F1 := Lib.hid (fun W (hW : Below w.heap.size w W) => under_any p q cp cq n m f g W hn hm (hf.below hW) (hg.below hW) c1 hc1 R hR)
  have F2 := Lib.hid (fun W (hW : Below w.heap.size w W) => fold_any p r cp cr n k f h W hn hk (hf.below hW) (hh.below hW) c2 hc2 u hu j hj)
  unfold Law
  by_cases h1 : c1 = 0
  · subst h1
    rw [er_0] at F1
    rw [if_pos rfl] at hR
    obtain ⟨gf, gg, hfg⟩ := two_zero.1 hc1
    by_cases h2 : c2 = 0
    · subst h2
      rw [er_0] at F2
      rw [if_pos rfl] at hu
      obtain ⟨_, gh, hfh⟩ := two_zero.1 hc2
      cases R with
      | false =>
        clear hn hm hk hf hg hh hc1 hR hc2 hu hj gf gg gh hfg hfh
        go_enter Try.func5, Try.ntmps5
        go_wp2_with fail
        refine FA.out.mono ?_; rintro e w1 ⟨rfl, hb1⟩
        have HB1 := Lib.hid hb1
        clear hb1 FA
        go_wp2_with fail
        refine (F1.out w1 HB1.out).mono ?_; rintro e w2 ⟨rfl, i2, rfl⟩
        have HB2 := Lib.hid (bdrewN HB1.out i2)
        clear HB1
        generalize w1.drewN i2 = w2 at HB2 ⊢
        go_wp2_with fail
        refine (F2.out w2 HB2.out).mono ?_; rintro e w3 ⟨⟨pu, cu, rfl, hI3⟩, hb3⟩
        have HB3 := Lib.hid (bcall HB2.out hb3)
        have HI3 := Lib.hid hI3
        clear HB2 hI3 hb3 F1 F2
        go_wp2_with fail
        go_ret
        exact ⟨by first | rfl | simp, HB3.out⟩
      | true =>
        have hjn : j = n := by rw [← hj, ← hu, fold_len, hn]
        subst hjn
        obtain ⟨bh, oh, rfl⟩ := at_some hh gh.pos
        obtain ⟨z, hz⟩ : ∃ z, am h 0 = z := ⟨_, rfl⟩
        have CH := Lib.hid (fun W (hW : Below w.heap.size w W) => (show W.cell? ⟨bh, oh, none⟩ = some (.int .i64 z) from by
          have e1 := cell_at (hh.below hW) 0 gh.pos
          rw [Nat.add_zero, hz] at e1
          exact e1))
        have t1 : ((k : Int) == 0) = false := by
          rw [beq_eq_false_iff_ne]
          have := gh.pos
          omega
        have hkl : (0 : Int) < (k : Int) := by have := gh.pos; omega
        obtain ⟨b1, hb1⟩ : ∃ b1, backTo f u j = b1 := ⟨_, rfl⟩
        obtain ⟨b2, hb2⟩ : ∃ b2, backTo g h m = b2 := ⟨_, rfl⟩
        have CK := Lib.hid (fun W pu cu (hI : Ints W pu cu u) c hc => check_any pu cu j u W hj.symm hI c hc)
        have F3 := Lib.hid (fun (ha : one u = 0) W pu cu (hW : Below w.heap.size w W) (hI : Ints W pu cu u) => back_any p pu cp cu j j f u W hn hj.symm (hf.below hW) hI 0 (two_zero.2 ⟨gf, one_zero.1 ha, by rw [← hn, hj]⟩) b1 hb1)
        have F4 := Lib.hid (fun W (hW : Below w.heap.size w W) => back_any q _ cq cr m k g h W hm hk (hg.below hW) (hh.below hW) 0 (two_zero.2 ⟨gg, gh, by rw [← hfg, hfh]⟩) b2 hb2)
        have K := Lib.hid (fun (h0 : z = 0) => (show b1 ≤ b2 from by
          rw [← hb1, ← hb2, ← hu, hn, hm, ← hfg]
          exact served_back hR hfg gg gh (by rw [hz, h0])))
        obtain ⟨ca, hca⟩ : ∃ ca, one u = ca := ⟨_, rfl⟩
        have HCA := Lib.hid hca
        rw [er_0] at F3 F4
        clear hb1 hb2 hz hca hn hm hk hf hg hh hc1 hR hc2 hu hj gf gg gh hfg hfh
        go_enter Try.func5, Try.ntmps5
        go_wp2_with fail
        refine FA.out.mono ?_; rintro e w1 ⟨rfl, hb1⟩
        have HB1 := Lib.hid hb1
        clear hb1 FA
        go_wp2_with fail
        refine (F1.out w1 HB1.out).mono ?_; rintro e w2 ⟨rfl, i2, rfl⟩
        have HB2 := Lib.hid (bdrewN HB1.out i2)
        clear HB1
        generalize w1.drewN i2 = w2 at HB2 ⊢
        go_wp2_with fail
        refine (F2.out w2 HB2.out).mono ?_; rintro e w3 ⟨⟨pu, cu, rfl, hI3⟩, hb3⟩
        have HB3 := Lib.hid (bcall HB2.out hb3)
        have HI3 := Lib.hid hI3
        clear HB2 hI3 hb3 F1 F2
        go_wp2_with fail
        have C5 := Lib.hid (CK.out w3 pu cu HI3.out ca HCA.out)
        by_cases ha : ca = 0
        · subst ha
          rw [er_0] at C5
          refine C5.out.mono ?_; rintro e w4 ⟨rfl, i4, rfl⟩
          have HB4 := Lib.hid (bdrewN HB3.out i4)
          have HI4 := Lib.hid (HI3.out.below (bdrewN (brefl w3) i4))
          clear C5 HB3 HI3 CK
          generalize w3.drewN i4 = w4 at HB4 HI4 ⊢
          have ck := CH.out w4 HB4.out
          by_cases hz : z = 0
          · have t2 : (z != 0) = false := by rw [hz]; simp
            have hK := K.out hz
            have t3 : decide (b1 ≤ b2) = true := decide_eq_true hK
            have C6 := Lib.hid (F3.out HCA.out w4 pu cu HB4.out HI4.out)
            clear hK hz K CH F3 HCA
            go_wp2_with fail
            refine C6.out.mono ?_; rintro e w5 ⟨rfl, i5, rfl⟩
            have HB5 := Lib.hid (bdrewN HB4.out i5)
            clear C6 HB4 HI4 ck t1 t2
            generalize w4.drewN i5 = w5 at HB5 ⊢
            go_wp2_with fail
            refine (F4.out w5 HB5.out).mono ?_; rintro e w6 ⟨rfl, i6, rfl⟩
            have HB6 := Lib.hid (bdrewN HB5.out i6)
            go_wp2_with fail
            go_ret
            exact ⟨by first | rfl | simp | (rw [t3]; rfl), HB6.out⟩
          · have t2 : (z != 0) = true := by rw [bne_iff_ne]; exact hz
            clear hz
            go_wp2_with fail
            go_ret
            exact ⟨by first | rfl | simp, HB4.out⟩
        · rw [er_ne ha] at C5
          refine C5.out.mono ?_; rintro e w4 ⟨rfl, i4, rfl⟩
          have HB4 := Lib.hid (bdrewN HB3.out i4)
          go_wp2_with fail
          go_ret
          exact ⟨by first | rfl | simp, HB4.out⟩
    · rw [er_ne h2] at F2
      clear hn hm hk hf hg hh hc1 hR hc2 hu hj gf gg hfg
      go_enter Try.func5, Try.ntmps5
      go_wp2_with fail
      refine FA.out.mono ?_; rintro e w1 ⟨rfl, hb1⟩
      have HB1 := Lib.hid hb1
      clear hb1 FA
      go_wp2_with fail
      refine (F1.out w1 HB1.out).mono ?_; rintro e w2 ⟨rfl, i2, rfl⟩
      have HB2 := Lib.hid (bdrewN HB1.out i2)
      clear HB1
      generalize w1.drewN i2 = w2 at HB2 ⊢
      go_wp2_with fail
      refine (F2.out w2 HB2.out).mono ?_; rintro e w3 ⟨⟨pu, cu, rfl, hI3⟩, hb3⟩
      have HB3 := Lib.hid (bcall HB2.out hb3)
      have HI3 := Lib.hid hI3
      clear HB2 hI3 hb3 F1 F2
      go_wp2_with fail
      go_ret
      exact ⟨by first | rfl | simp, HB3.out⟩
  · rw [er_ne h1] at F1
    generalize er c2 = V at F2
    clear hn hm hk hf hg hh hc1 hR hc2 hu hj
    go_enter Try.func5, Try.ntmps5
    go_wp2_with fail
    refine FA.out.mono ?_; rintro e w1 ⟨rfl, hb1⟩
    have HB1 := Lib.hid hb1
    clear hb1 FA
    go_wp2_with fail
    refine (F1.out w1 HB1.out).mono ?_; rintro e w2 ⟨rfl, i2, rfl⟩
    have HB2 := Lib.hid (bdrewN HB1.out i2)
    clear HB1
    generalize w1.drewN i2 = w2 at HB2 ⊢
    go_wp2_with fail
    refine (F2.out w2 HB2.out).mono ?_; rintro e w3 ⟨⟨pu, cu, rfl, hI3⟩, hb3⟩
    have HB3 := Lib.hid (bcall HB2.out hb3)
    have HI3 := Lib.hid hI3
    clear HB2 hI3 hb3 F1 F2
    go_wp2_with fail
    go_ret
    exact ⟨by first | rfl | simp, HB3.out⟩

theorem reads : Try.f5.params.toList.all (fun t => Try.prog.readableRec t && decide (t < Try.prog.types.size)) = true := by kernel_rfl

theorem contract (H : Type) (enc : TypeId × Value → H) (W : World) (base : Nat) (args : Array Value) (ds gs : List (DataW H)) (before : List MemPlace)
    (hval : ∀ (j : Nat) t v, Try.f5.params[j]? = some t → args[j]? = some v → Value.okWide Try.prog W .any base t v)
    (hW : DataW.Whole enc Try.prog Try.f5.params.toList Rows.curveServedSpec.vars false W args.toList ds gs before) :
    Calls Try.prog 5 args W fun e W' => ∃ v, e = .returned v ∧ Rows.curveServedSpec.post enc Try.prog Try.f5 false true false false W args v W' := by
  have hW' := hW
  obtain ⟨p, q, hA0, hV, rfl, hfz, hnd⟩ := hW
  have hA : DataW.TrodAll enc Try.prog W 0 (fun _ => true) true Try.f5.params.toList args.toList ds p := hA0
  have hlt := hA.lt
  rw [Try.params5] at hA hval
  obtain ⟨v0, vs0, d0, ds0, p0, q0, hargs, rfl, rfl, h0, r0⟩ := trodAll_cons hA
  obtain ⟨v1, vs1, d1, ds1, p1, q1, hvs1, rfl, rfl, h1, r1⟩ := trodAll_cons r0
  obtain ⟨v2, vs2, d2, ds2, p2, q2, hvs2, rfl, rfl, h2, r2⟩ := trodAll_cons r1
  obtain ⟨hvsn, rfl, rfl⟩ := trodAll_nil r2
  simp only [hvsn, hvs2, hvs1] at hargs
  obtain rfl : args = #[v0, v1, v2] := by cases args; simp_all
  obtain ⟨rfl, rfl⟩ := trodVars_none hV
  clear hA0
  obtain ⟨p0a, cap0, l0, rfl, i0⟩ := open_intsl Try.underlying22 Try.underlying3 (by kernel_rfl) (hval 0 22 v0 rfl rfl) h0 (fun x hx => hlt x (by simp [hx]))
  obtain ⟨p1a, cap1, l1, rfl, i1⟩ := open_intsl Try.underlying22 Try.underlying3 (by kernel_rfl) (hval 1 22 v1 rfl rfl) h1 (fun x hx => hlt x (by simp [hx]))
  obtain ⟨p2a, cap2, l2, rfl, i2⟩ := open_intsl Try.underlying22 Try.underlying3 (by kernel_rfl) (hval 2 22 v2 rfl rfl) h2 (fun x hx => hlt x (by simp [hx]))
  exact law_post 4 laid reads rfl Try.underlying4 rfl hW' ⟨rfl, rfl, rfl⟩ (law_any _ _ _ _ _ _ cap0 cap1 cap2 l0 l1 l2 W rfl rfl rfl i0 i1 i2)

set_option maxRecDepth 100000 in
theorem lifted (os : Os) (started : os.Started) (H : Type) (enc : TypeId × Value → H) :
    ReturnsInHanded {} Try.checked os 5 .any (Rows.curveServedSpec.pre6 enc Try.prog Try.f5 Rows.curveServedRow.domain false) (Rows.curveServedSpec.post enc Try.prog Try.f5 false true false false) := by
  refine returnsInHanded_of_change (C := Try.checked) own started (by kernel_rfl) Try.func5
    (ChangeSpec.witness6 (enc := enc) (C := Try.checked) false ⟨#[], #[.slice none 0 0, .slice none 0 0, .slice none 0 0], []⟩ 8 (by kernel_rfl) (by kernel_rfl) (by kernel_rfl) (by kernel_rfl)) ?_
  intro W base args ds gs before hval hW _ _
  exact contract H enc W base args ds gs before hval hW

theorem proved : Rows.CurveServedSaid :=
  OpenClaim.holds_of_wide 5 Try.f5 rfl rfl rfl rfl rfl rfl rfl ⟨rfl, rfl, rfl, rfl, rfl⟩ rfl rfl rfl rfl rfl (by kernel_rfl) Try.func5 (by kernel_rfl)
    (of_decide_eq_true (by kernel_rfl)) (by unfold Func.isWrapper; first | (rw [if_pos (by decide +kernel)]; kernel_rfl) | (rw [if_neg (by decide +kernel)]; exact ⟨rfl, rfl⟩))
    (fun os started H enc _ => lifted os started H enc)
end Go.Proofs.Ytfinfdcpepiadaa.CurveServedL
