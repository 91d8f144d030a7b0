/- CurveMore: adding a constant to a curve adds it to the convolution and to the backlog at most: for every input. No condition. -/
import Derived.Test.YtfinfdcpepiadaaCurveFact
import Derived.Test.YtfinfdcpepiadaaCurveMore
import Derived.Test.YtfinfdcpepiadaaRttIn
import Derived.BigQuiet
namespace Go.Proofs.Ytfinfdcpepiadaa.CurveMoreL
open Go.ChangeShapes Go.WideShapes Go.ChangeAt Go.RowKit Go.Proofs.Ytfinfdcpepiadaa.Kit Go.Proofs.Ytfinfdcpepiadaa.App Go.Proofs.Ytfinfdcpepiadaa.Err Go.Proofs.Ytfinfdcpepiadaa.Curve
set_option linter.unusedVariables false
set_option maxRecDepth 20000
set_option maxHeartbeats 2000000
abbrev Law (p q : Option Addr) (n m cp cq : Nat) (y : Int) (w : World) : Prop := Calls Try.prog 4 #[.slice p n cp, .slice q m cq, .int .i64 y] w fun e w' => e = .returned (.bool true) ∧ Below w.heap.size w w'
theorem law_bad (p q : Option Addr) (n m cp cq : Nat) (y : Int) (f g : List Int) (w : World) (hn : n = f.length) (hm : m = g.length) (hf : Ints w p cp f) (hg : Ints w q cq g) (h0 : two f g ≠ 0) : Law p q n m cp cq y w := by
  have FA := Lib.hid (fact_any w)
  have F1 := Lib.hid (fun W (hW : Below w.heap.size w W) => fold_bad p q cp cq n m f g W hn hm (hf.below hW) (hg.below hW) _ rfl h0)
  have F2 := Lib.hid (fun W (hW : Below w.heap.size w W) => back_bad p q cp cq n m f g W hn hm (hf.below hW) (hg.below hW) _ rfl h0)
  rw [er_ne h0] at F1 F2
  clear hn hm hf hg h0
  unfold Law
  go_enter Try.func4, Try.ntmps4
  go_wp2_with fail
  refine FA.out.mono ?_; rintro e w1 ⟨rfl, hb1⟩
  have HB1 := Lib.hid hb1
  clear hb1 FA
  go_wp2_with fail
  refine (F1.out w1 HB1.out).mono ?_; rintro e w2 ⟨rfl, i2, rfl⟩
  have HB2 := Lib.hid (bdrewN HB1.out i2)
  clear HB1
  generalize w1.drewN i2 = w2 at HB2 ⊢
  go_wp2_with fail
  refine (F2.out w2 HB2.out).mono ?_; rintro e w3 ⟨rfl, i3, rfl⟩
  have HB3 := Lib.hid (bdrewN HB2.out i3)
  generalize w2.drewN i3 = w3 at HB3 ⊢
  go_wp2_with fail
  go_ret
  exact ⟨by first | rfl | simp, HB3.out⟩
set_option maxHeartbeats 4000000 in
theorem law_good (bf of bg og : Nat) (n cp cq : Nat) (y : Int) (f g : List Int) (w : World) (hn : n = f.length) (hm : n = g.length) (hf : Ints w (some ⟨bf, of, none⟩) cp f) (hg : Ints w (some ⟨bg, og, none⟩) cq g) (gf : Curve.Good f) (gg : Curve.Good g) : Law (some ⟨bf, of, none⟩) (some ⟨bg, og, none⟩) n n cp cq y w := by
  have hfg : f.length = g.length := by rw [← hn, ← hm]
  have FA := Lib.hid (fact_any w)
  obtain ⟨u, hu⟩ : ∃ u, fold f g = u := ⟨_, rfl⟩
  have hul : u.length = n := by rw [← hu, fold_len, hn]
  obtain ⟨b, hb⟩ : ∃ b, backTo f g n = b := ⟨_, rfl⟩
  have hb2 := back_num (f := f) (g := g) (k := n) gf gg
  rw [hb] at hb2
  have F1 := Lib.hid (fun W (hW : Below w.heap.size w W) => fold_any _ _ cp cq n n f g W hn hm (hf.below hW) (hg.below hW) 0 (two_zero.2 ⟨gf, gg, hfg⟩) u hu n hul)
  have F2 := Lib.hid (fun W (hW : Below w.heap.size w W) => back_any _ _ cp cq n n f g W hn hm (hf.below hW) (hg.below hW) 0 (two_zero.2 ⟨gf, gg, hfg⟩) b hb)
  rw [er_0] at F1 F2
  have h1 := gf.pos
  have h2 := gf.len
  rw [← hn] at h1 h2
  have HUL := Lib.hid hul
  by_cases hy : 0 ≤ y ∧ y ≤ 1000
  · have IN := Lib.hid (fun W => Go.Proofs.Ytfinfdcpepiadaa.Rtt.in_any y 0 1000 W true (in_true hy))
    obtain ⟨y1, y2⟩ := hy
    obtain ⟨M, hM⟩ : ∃ M, more f y = M := ⟨_, rfl⟩
    have hML : M.length = n := by rw [← hM, more_len, hn]
    obtain ⟨c, hc⟩ : ∃ c, two M g = c := ⟨_, rfl⟩
    obtain ⟨v, hv⟩ : ∃ v, (if c = 0 then fold M g else []) = v := ⟨_, rfl⟩
    obtain ⟨j, hj⟩ : ∃ j, v.length = j := ⟨_, rfl⟩
    obtain ⟨d, hd⟩ : ∃ d, (if c = 0 then backTo M g n else 0) = d := ⟨_, rfl⟩
    have F3 := Lib.hid (fun W pm cm (hW : Below w.heap.size w W) (hI : Ints W pm cm M) => fold_any pm _ cm cq n n M g W hML.symm hm hI (hg.below hW) c hc v hv j hj)
    have F4 := Lib.hid (fun W pm cm (hW : Below w.heap.size w W) (hI : Ints W pm cm M) => back_any pm _ cm cq n n M g W hML.symm hm hI (hg.below hW) c hc d hd)
    have K0 := Lib.hid (fun (h0 : c ≠ 0) => (show 1000 < am M (n - 1) from by
      rw [← hM, hn]
      exact more_bad y1 gf gg hfg (by rw [hM, hc]; exact h0)))
    have K1 := Lib.hid (fun (h0 : c = 0) => (show j = n ∧ b ≤ d ∧ d ≤ b + y ∧ (∀ t, t < n → am v t = am u t + y) from by
      rw [if_pos h0] at hv hd
      refine ⟨by rw [← hj, ← hv, fold_len, hML], ?_, ?_, fun t ht => ?_⟩
      · rw [← hd, ← hb, ← hM]; exact (more_back y1 (by omega)).1
      · rw [← hd, ← hb, ← hM]; exact (more_back y1 (by omega)).2
      · rw [← hv, ← hu, ← hM, fold_am (by rw [more_len]; omega), fold_am (by omega)]
        exact more_low (by omega)))
    have CF := Lib.hid (fun W (hW : Below w.heap.size w W) k (hk : k < n) => cell_at (hf.below hW) k (by rw [← hn]; exact hk))
    have HS := Lib.hid (fun t (ht : t < n) => (show M.take (t + 1) = M.take t ++ [am f t + y] ∧ 0 ≤ am f t ∧ am f t ≤ 1000 from by
      refine ⟨?_, gf.num t⟩
      rw [List.take_add_one, am_get (by rw [hML]; exact ht), ← hM, more_am (by omega)]; rfl))
    have HUN := Lib.hid (fun t (ht : t < n) => (show 0 ≤ am u t ∧ am u t ≤ 2000 from by
      rw [← hu, fold_am (by omega)]
      exact low_num gf gg t))
    have HML := Lib.hid hML
    have HJ := Lib.hid hj
    have HMM := Lib.hid (show ∀ t, t < n → 0 ≤ am M t ∧ am M t ≤ 2000 from fun t ht => by
      rw [← hM, more_am (by omega)]
      have := gf.num t
      omega)
    obtain ⟨b1, b2⟩ := hb2
    clear hn hm hf hg gf gg hfg hu hul hb hM hML hc hv hj hd
    unfold Law
    go_enter Try.func4, Try.ntmps4
    go_wp2_with fail
    refine FA.out.mono ?_; rintro e w1 ⟨rfl, hb1⟩
    have HB1 := Lib.hid hb1
    clear hb1 FA
    go_wp2_with fail
    refine (F1.out w1 HB1.out).mono ?_; rintro e w2 ⟨⟨pu, cu, rfl, hI2⟩, hb2⟩
    have HB2 := Lib.hid (bcall HB1.out hb2)
    have HI2 := Lib.hid hI2
    clear HB1 hI2 hb2
    go_wp2_with fail
    refine (F2.out w2 HB2.out).mono ?_; rintro e w3 ⟨rfl, i3, rfl⟩
    have HB3 := Lib.hid (bdrewN HB2.out i3)
    have HI3 := Lib.hid (show Ints (w2.drewN i3) pu cu u from HI2.out.below (bdrewN (brefl w2) i3))
    clear HB2 HI2 F1 F2
    generalize w2.drewN i3 = w3 at HB3 HI3 ⊢
    go_wp2_with fail
    refine (IN.out _).mono ?_; rintro e w4 ⟨rfl, rfl⟩
    clear IN
    go_wp2_with fail
    have HZ := Lib.hid (OwnI.nil w4 w4.heap.size)
    have HR := Lib.hid (brefl w4)
    go_loopw [12, 13] (fun av iv wr => ∃ (i : Nat) (vv : Value), vv = av ∧ iv = .int .i64 (i : Int) ∧ i ≤ n ∧ Hid (OwnI wr w4.heap.size vv (M.take i)) ∧ Hid (Below w4.heap.size w4 wr)) (fun _ i _ => n - (intOf i).toNat)
    case atStart => exact ⟨0, _, rfl, rfl, Nat.zero_le _, HZ, HR⟩
    case round =>
      obtain ⟨i, vv, rfl, rfl, hi, HO, HB⟩ := hrel
      clear HZ HR
      by_cases hin : i < n
      · have ck := CF.out wr (bcall HB3.out HB.out) i hin
        have hB0 := HB.out.size
        have hs := HS.out i hin
        have HLN : Hid ((M.take i).length ≤ 16) := Lib.hid (by rw [List.length_take]; omega)
        generalize am f i = a at ck hs
        obtain ⟨hs, a1, a2⟩ := hs
        have HS2 := Lib.hid hs
        have hwf : (Lit.int .i64 (a + y)).wf = true := by simp [Lit.wf, IntKind.min, IntKind.max, IntKind.signed, IntKind.bits]; omega
        have hw1 := wrap_in (n := a + y) (by omega)
        clear hs
        go_wp2_with (first
          | (at_builtin
             refine wp_app rfl (.tmp 58) (.tmp 65) rfl w4.heap.size vv (M.take i) (some ⟨wr.heap.size, 0, none⟩) 1 1 [a + y] rfl (HO.out.alloc _) rfl rfl (Ints.one _ (a + y) hwf) (by have := HLN.out; simp at this ⊢; omega) (Nat.le_trans hB0 (by simp)) ?_
             intro v8 w8 ho8 hg8 hat8
             have HB8 := Lib.hid (below_one HB.out hB0 _ HO.out hg8)
             have HO8 := Lib.hid ho8
             clear ho8 hg8 hat8))
        go_wp2_with fail
        go_roundw
        case rel => exact ⟨i + 1, v8, rfl, by first | rfl | go_num, by omega, Lib.hid (by rw [HS2.out]; exact HO8.out), HB8⟩
        case measure => simp [intOf]; omega
      · obtain rfl : i = n := by omega
        have ho := HO.out
        rw [List.take_of_length_le (by rw [HML.out]; exact Nat.le_refl _)] at ho
        obtain ⟨pm, cm, rfl, hIm⟩ := ho.form
        rw [HML.out]
        have HB5 := Lib.hid (bcall HB3.out HB.out)
        have HI5 := Lib.hid (HI3.out.below HB.out)
        have HM5 := Lib.hid hIm
        clear ho hIm HO HB HB3 HI3 CF HS
        have C3 := Lib.hid (F3.out wr pm cm HB5.out HM5.out)
        have C4 := Lib.hid (fun W hW hI => F4.out W pm cm hW hI)
        clear F3 F4
        by_cases h0 : c = 0
        · subst h0
          obtain ⟨e1, k1, k2, k3⟩ := K1.out (by first | rfl | trivial)
          rw [e1] at C3 HJ
          have K3 := Lib.hid k3
          rw [er_0] at C3 C4
          clear e1 k3 K0 K1
          go_wp2_with fail
          refine C3.out.mono ?_; rintro e w6 ⟨⟨pv, cv, rfl, hI6⟩, hb6⟩
          have HB6 := Lib.hid (bcall HB5.out hb6)
          have HI6 := Lib.hid (And.intro (HI5.out.below hb6) hI6)
          have D4 := Lib.hid (C4.out w6 HB6.out (HM5.out.below hb6))
          clear hI6 hb6 C3 C4 HM5 HI5 HB5
          go_wp2_with fail
          refine D4.out.mono ?_; rintro e w7 ⟨rfl, i7, rfl⟩
          have HB7 := Lib.hid (bdrewN HB6.out i7)
          have HI7 := Lib.hid (And.intro (HI6.out.1.below (bdrewN (brefl w6) i7)) (HI6.out.2.below (bdrewN (brefl w6) i7)))
          clear D4 HB6 HI6
          generalize w6.drewN i7 = w7 at HB7 HI7 ⊢
          obtain ⟨bu, ou, rfl⟩ := at_some HI7.out.1 (by rw [HUL.out]; exact h1)
          obtain ⟨bv, ov, rfl⟩ := at_some HI7.out.2 (by rw [HJ.out]; exact h1)
          have t0 : ((i : Int) != (i : Int)) = false := by simp
          have t1 : decide (d < b) = false := decide_eq_false (by omega)
          have t2 : decide (d > b + y) = false := decide_eq_false (by omega)
          have hw2 := wrap_in (n := b + y) (by omega)
          clear k1 k2
          go_wp2_with fail
          have HR := Lib.hid (brefl w7)
          clear t0 t1 t2 hw2
          go_loopw [16] (fun tv wr => ∃ t : Nat, t ≤ i ∧ tv = .int .i64 t ∧ Hid (Below w7.heap.size w7 wr)) (fun t _ => i - (intOf t).toNat)
          case atStart => exact ⟨0, Nat.zero_le _, rfl, HR⟩
          case round =>
            obtain ⟨t, ht, rfl, HB8⟩ := hrel
            clear HR
            by_cases hti : t < i
            · have u1 : decide ((t : Int) < (i : Int)) = true := decide_eq_true (by omega)
              have c1 := cell_at (HI7.out.1.below HB8.out) t (by rw [HUL.out]; exact hti)
              have c2 := cell_at (HI7.out.2.below HB8.out) t (by rw [HJ.out]; exact hti)
              have k4 := K3.out t hti
              have k5 := HUN.out t hti
              generalize am v t = z at c2 k4
              generalize am u t = x at c1 k4 k5
              subst k4
              obtain ⟨x1, x2⟩ := k5
              have hw3 := wrap_in (n := x + y) (by omega)
              have u2 : ((x + y) != (x + y)) = false := by simp
              go_wp2_with fail
              go_region
              go_wp2_with fail
              go_roundw
              case rel => exact ⟨t + 1, by omega, by first | rfl | go_num, Lib.hid (below_drewN HB8.out 1)⟩
              case measure => simp [intOf]; omega
            · have u1 : decide ((t : Int) < (i : Int)) = false := decide_eq_false (by omega)
              go_wp2_with fail
              go_ret
              exact ⟨by first | rfl | simp, bcall HB7.out HB8.out⟩
        · have k0 := K0.out h0
          rw [er_ne h0] at C3 C4
          clear K0 K1 h0
          go_wp2_with fail
          refine C3.out.mono ?_; rintro e w6 ⟨⟨pv, cv, rfl, _⟩, hb6⟩
          have HB6 := Lib.hid (bcall HB5.out hb6)
          have HM6 := Lib.hid (HM5.out.below hb6)
          have D4 := Lib.hid (C4.out w6 HB6.out HM6.out)
          clear hb6 C3 C4 HM5 HI5 HB5
          obtain ⟨bm, om, rfl⟩ := at_some HM6.out (by rw [HML.out]; exact h1)
          go_wp2_with fail
          refine D4.out.mono ?_; rintro e w7 ⟨rfl, i7, rfl⟩
          have HB7 := Lib.hid (bdrewN HB6.out i7)
          obtain ⟨s, hs⟩ : ∃ s, i - 1 = s := ⟨_, rfl⟩
          have hs2 : (i : Int) - 1 = (s : Int) := by omega
          have hs3 : (s : Int) < (i : Int) := by omega
          have ck : (w6.drewN i7).cell? ⟨bm, om + s, none⟩ = some (.int .i64 (am M s)) := cell_at (HM6.out.below (bdrewN (brefl w6) i7)) s (by rw [HML.out]; omega)
          have hmm := HMM.out s (by omega)
          rw [hs] at k0
          clear D4 HB6 HM6 hs
          generalize w6.drewN i7 = w7 at HB7 ck ⊢
          generalize am M s = z at ck k0 hmm
          obtain ⟨z1, z2⟩ := hmm
          have u1 : decide (z > 1000) = true := decide_eq_true k0
          have u2 : decide ((i : Int) > 0) = true := decide_eq_true (by omega)
          go_wp2_with fail
          go_ret
          exact ⟨by first | rfl | simp, HB7.out⟩
  · have IN := Lib.hid (fun W => Go.Proofs.Ytfinfdcpepiadaa.Rtt.in_any y 0 1000 W false (in_false hy))
    clear hy hn hm hf hg gf gg hfg hu hul hb hb2
    unfold Law
    go_enter Try.func4, Try.ntmps4
    go_wp2_with fail
    refine FA.out.mono ?_; rintro e w1 ⟨rfl, hb1⟩
    have HB1 := Lib.hid hb1
    clear hb1 FA
    go_wp2_with fail
    refine (F1.out w1 HB1.out).mono ?_; rintro e w2 ⟨⟨pu, cu, rfl, hI2⟩, hb2⟩
    have HB2 := Lib.hid (bcall HB1.out hb2)
    clear HB1 hI2 hb2
    go_wp2_with fail
    refine (F2.out w2 HB2.out).mono ?_; rintro e w3 ⟨rfl, i3, rfl⟩
    have HB3 := Lib.hid (bdrewN HB2.out i3)
    generalize w2.drewN i3 = w3 at HB3 ⊢
    go_wp2_with fail
    refine (IN.out _).mono ?_; rintro e w4 ⟨rfl, rfl⟩
    go_wp2_with fail
    go_ret
    exact ⟨rfl, HB3.out⟩
theorem law_any (p q : Option Addr) (n m cp cq : Nat) (y : Int) (f g : List Int) (w : World) (hn : n = f.length) (hm : m = g.length) (hf : Ints w p cp f) (hg : Ints w q cq g) : Law p q n m cp cq y w := by
  by_cases h0 : two f g = 0
  · obtain ⟨gf, gg, hl⟩ := two_zero.1 h0
    obtain rfl : n = m := by rw [hn, hm, hl]
    obtain ⟨b1, o1, rfl⟩ := at_some hf gf.pos
    obtain ⟨b2, o2, rfl⟩ := at_some hg gg.pos
    exact law_good b1 o1 b2 o2 n cp cq y f g w hn hm hf hg gf gg
  · exact law_bad p q n m cp cq y f g w hn hm hf hg h0

theorem reads : Try.f4.params.toList.all (fun t => Try.prog.readableRec t && decide (t < Try.prog.types.size)) = true := by kernel_rfl

theorem contract (H : Type) (enc : TypeId × Value → H) (W : World) (base : Nat) (args : Array Value) (ds gs : List (DataW H)) (before : List MemPlace)
    (hval : ∀ (j : Nat) t v, Try.f4.params[j]? = some t → args[j]? = some v → Value.okWide Try.prog W .any base t v)
    (hW : DataW.Whole enc Try.prog Try.f4.params.toList Rows.curveMoreSpec.vars false W args.toList ds gs before) :
    Calls Try.prog 4 args W fun e W' => ∃ v, e = .returned v ∧ Rows.curveMoreSpec.post enc Try.prog Try.f4 false true false false W args v W' := by
  have hW' := hW
  obtain ⟨p, q, hA0, hV, rfl, hfz, hnd⟩ := hW
  have hA : DataW.TrodAll enc Try.prog W 0 (fun _ => true) true Try.f4.params.toList args.toList ds p := hA0
  have hlt := hA.lt
  rw [Try.params4] at hA hval
  obtain ⟨v0, vs0, d0, ds0, p0, q0, hargs, rfl, rfl, h0, r0⟩ := trodAll_cons hA
  obtain ⟨v1, vs1, d1, ds1, p1, q1, hvs1, rfl, rfl, h1, r1⟩ := trodAll_cons r0
  obtain ⟨v2, vs2, d2, ds2, p2, q2, hvs2, rfl, rfl, h2, r2⟩ := trodAll_cons r1
  obtain ⟨hvsn, rfl, rfl⟩ := trodAll_nil r2
  simp only [hvsn, hvs2, hvs1] at hargs
  obtain rfl : args = #[v0, v1, v2] := by cases args; simp_all
  obtain ⟨rfl, rfl⟩ := trodVars_none hV
  clear hA0
  obtain ⟨p0a, cap0, l0, rfl, i0⟩ := open_intsl Try.underlying22 Try.underlying3 (by kernel_rfl) (hval 0 22 v0 rfl rfl) h0 (fun x hx => hlt x (by simp [hx]))
  obtain ⟨p1a, cap1, l1, rfl, i1⟩ := open_intsl Try.underlying22 Try.underlying3 (by kernel_rfl) (hval 1 22 v1 rfl rfl) h1 (fun x hx => hlt x (by simp [hx]))
  obtain ⟨a2, rfl, rfl, rfl, w2⟩ := open_int Try.underlying3 (hval 2 3 v2 rfl rfl) h2
  have b2 := bounds_int w2
  exact law_post 4 laid reads rfl Try.underlying4 rfl hW' ⟨rfl, rfl, rfl⟩ (law_any _ _ _ _ cap0 cap1 a2 l0 l1 W rfl rfl i0 i1)

set_option maxRecDepth 100000 in
theorem lifted (os : Os) (started : os.Started) (H : Type) (enc : TypeId × Value → H) :
    ReturnsInHanded {} Try.checked os 4 .any (Rows.curveMoreSpec.pre6 enc Try.prog Try.f4 Rows.curveMoreRow.domain false) (Rows.curveMoreSpec.post enc Try.prog Try.f4 false true false false) := by
  refine returnsInHanded_of_change (C := Try.checked) own started (by kernel_rfl) Try.func4
    (ChangeSpec.witness6 (enc := enc) (C := Try.checked) false ⟨#[], #[.slice none 0 0, .slice none 0 0, .int .i64 0], []⟩ 8 (by kernel_rfl) (by kernel_rfl) (by kernel_rfl) (by kernel_rfl)) ?_
  intro W base args ds gs before hval hW _ _
  exact contract H enc W base args ds gs before hval hW

theorem proved : Rows.CurveMoreSaid :=
  OpenClaim.holds_of_wide 4 Try.f4 rfl rfl rfl rfl rfl rfl rfl ⟨rfl, rfl, rfl, rfl, rfl⟩ rfl rfl rfl rfl rfl (by kernel_rfl) Try.func4 (by kernel_rfl)
    (of_decide_eq_true (by kernel_rfl)) (by unfold Func.isWrapper; first | (rw [if_pos (by decide +kernel)]; kernel_rfl) | (rw [if_neg (by decide +kernel)]; exact ⟨rfl, rfl⟩))
    (fun os started H enc _ => lifted os started H enc)
end Go.Proofs.Ytfinfdcpepiadaa.CurveMoreL
