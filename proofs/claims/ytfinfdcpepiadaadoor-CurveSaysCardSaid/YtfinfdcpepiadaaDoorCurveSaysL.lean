/- CurveSays: for all arguments, the functions of package curve return what the document specifies: for every input, the row's handle laid as the card says. -/
import Derived.Test.YtfinfdcpepiadaaDoorCards
import Derived.Test.YtfinfdcpepiadaaDoorTie
import Derived.Deep.DeepHandedRow
import Derived.Lib.LaidTab
import Derived.LaidHandle
import Derived.SevenTiedAt
import Derived.Test.YtfinfdcpepiadaaDoorCurve3
import Derived.Test.YtfinfdcpepiadaaDoorCurveRef
import Derived.Test.YtfinfdcpepiadaaDoorErrSame
import Derived.Test.YtfinfdcpepiadaaDoorSame
namespace Go.Proofs.YtfinfdcpepiadaaDoor.CurveSaysL
open Go.ChangeShapes Go.WideShapes Go.ChangeAt Go.RowKit Go.Proofs.YtfinfdcpepiadaaDoor.Kit Go.Proofs.YtfinfdcpepiadaaDoor.App Go.Proofs.YtfinfdcpepiadaaDoor.Err Go.Proofs.YtfinfdcpepiadaaDoor.Curve Go.Proofs.YtfinfdcpepiadaaDoor.As
set_option linter.unusedVariables false
set_option maxRecDepth 20000
set_option maxHeartbeats 4000000

abbrev Law (p q : Option Addr) (n m cp cq : Nat) (w : World) : Prop := Calls Tryd.prog 3 #[.slice p n cp, .slice q m cq] w fun e w' => e = .returned (.bool true) ∧ Below w.heap.size w w'
theorem law_bad (p q : Option Addr) (n m cp cq : Nat) (f g : List Int) (w : World) (hH : Handle w) (hn : n = f.length) (hm : m = g.length) (hf : Ints w p cp f) (hg : Ints w q cq g) (c : Int) (hc : two f g = c) (h0 : c ≠ 0) : Law p q n m cp cq w := by
  obtain ⟨c1, hc1⟩ : ∃ c1, one f = c1 := ⟨_, rfl⟩
  obtain ⟨lc, hlc⟩ : ∃ lc, lates f g = lc := ⟨_, rfl⟩
  obtain ⟨u, hu⟩ : ∃ u, (if c = 0 then fold f g else []) = u := ⟨_, rfl⟩
  obtain ⟨j, hj⟩ : ∃ j, u.length = j := ⟨_, rfl⟩
  obtain ⟨v, hv⟩ : ∃ v, (if c = 0 then backTo f g n else 0) = v := ⟨_, rfl⟩
  obtain ⟨d, hd⟩ : ∃ d, (if lc = 0 then waitTo f g n else 0) = d := ⟨_, rfl⟩
  obtain ⟨R, hR⟩ : ∃ R, (if c = 0 then under f g else false) = R := ⟨_, rfl⟩
  have P1 := Lib.hid (check_any p cp n f w hn hf c1 hc1)
  have P2 := Lib.hid (fun W (hW : Below w.heap.size w W) => fold_any p q cp cq n m f g W hn hm (hf.below hW) (hg.below hW) c hc u hu j hj)
  have P3 := Lib.hid (fun W (hW : Below w.heap.size w W) => back_any p q cp cq n m f g W hn hm (hf.below hW) (hg.below hW) c hc v hv)
  have P4 := Lib.hid (fun W (hW : Below w.heap.size w W) => wait_any p q cp cq n m f g W hn hm (hf.below hW) (hg.below hW) lc hlc d hd)
  have P5 := Lib.hid (fun W (hW : Below w.heap.size w W) => under_any p q cp cq n m f g W hn hm (hf.below hW) (hg.below hW) c hc R hR)
  have D1 := Lib.hid (fun i => rone_any p cp n f (w.drewN i) hn (hf.below (bdrewN (brefl w) i)) c1 hc1)
  have D2 := Lib.hid (fun W (hW : Below w.heap.size w W) => rtwo_any p q cp cq n m f g W hn hm (hf.below hW) (hg.below hW) c hc)
  have E1 := Lib.hid (fun W (hb : Below w.heap.size w W) => err_same c1 W (hH.below hb))
  have E2 := Lib.hid (fun W (hb : Below w.heap.size w W) => err_same c W (hH.below hb))
  have E3 := Lib.hid (fun W (hb : Below w.heap.size w W) => err_same lc W (hH.below hb))
  have hl : lc = c := by
    rw [← hlc]
    unfold lates
    rw [if_pos (by rw [hc]; exact h0), hc]
  subst hl
  rw [if_neg h0] at hu hv hd hR
  subst hu hv hd hR
  have t0 : (lc == 0) = false := by rw [beq_eq_false_iff_ne]; exact h0
  have HJ := Lib.hid hj
  obtain rfl : j = 0 := hj.symm
  clear hc hlc hc1 hn hm hf hg hj h0 hH
  generalize er c1 = V1 at P1 E1
  generalize er lc = V at P2 P3 P4 P5 E2 E3
  unfold Law
  go_enter Tryd.func3, Tryd.ntmps3
  go_wp2_with fail
  refine P1.out.mono ?_; rintro e w1 ⟨rfl, i1, rfl⟩
  go_wp2_with fail
  refine (D1.out _).mono ?_; rintro e w2 ⟨rfl, i2, rfl⟩
  have HB2 : Hid (Below w.heap.size w ((w.drewN i1).drewN i2)) := Lib.hid (bdrewN (bdrewN (brefl w) i1) i2)
  clear P1 D1
  generalize (w.drewN i1).drewN i2 = w2 at HB2 ⊢
  go_wp2_with fail
  refine (E1.out _ HB2.out).mono ?_; rintro e w3 ⟨rfl, hb3⟩
  have HB3 := Lib.hid (bcall HB2.out hb3)
  clear HB2 hb3 E1
  go_wp2_with fail
  refine (D2.out _ HB3.out).mono ?_; rintro e w4 ⟨rfl, i4, rfl⟩
  have HB5 := Lib.hid (bdrewN HB3.out i4)
  clear HB3 D2
  generalize w3.drewN i4 = w5 at HB5 ⊢
  go_wp2_with fail
  have HB9 := HB5
  have HU9 := Lib.hid (Ints.nil w5)
  refine (P2.out _ HB9.out).mono ?_; rintro e wa ⟨⟨q1, k1, rfl, hia⟩, hba⟩
  have HBa := Lib.hid (bcall HB9.out hba)
  have HIa := Lib.hid (And.intro hia (HU9.out.below hba))
  clear P2 HB9 HU9 hia hba
  go_wp2_with fail
  refine (E2.out _ HBa.out).mono ?_; rintro e wb ⟨rfl, hbb⟩
  have HBb := Lib.hid (bcall HBa.out hbb)
  have SM := Lib.hid (ints_any _ _ _ _ 0 0 [] [] wb rfl rfl (HIa.out.1.below hbb) (HIa.out.2.below hbb) true (by simp))
  clear HBa HIa hbb
  go_wp2_with fail
  refine SM.out.mono ?_; rintro e wc ⟨rfl, hbc⟩
  have HBc := Lib.hid (bcall HBb.out hbc)
  clear SM HBb hbc
  go_wp2_with fail
  refine (P3.out _ HBc.out).mono ?_; rintro e wd ⟨rfl, id, rfl⟩
  have HBd := Lib.hid (bdrewN HBc.out id)
  clear P3 HBc
  generalize wc.drewN id = wd at HBd ⊢
  go_wp2_with fail
  refine (E2.out _ HBd.out).mono ?_; rintro e we ⟨rfl, hbe⟩
  have HBe := Lib.hid (bcall HBd.out hbe)
  have t1 : True := trivial
  clear HBd hbe
  go_wp2_with fail
  refine (P4.out _ HBe.out).mono ?_; rintro e wf ⟨rfl, jf, rfl⟩
  have HBf := Lib.hid (bdrewN HBe.out jf)
  clear P4 HBe t1
  generalize we.drewN jf = wf at HBf ⊢
  go_wp2_with fail
  refine (E3.out _ HBf.out).mono ?_; rintro e wg ⟨rfl, hbg⟩
  have HBg := Lib.hid (bcall HBf.out hbg)
  have t2 : True := trivial
  clear HBf hbg E3
  go_wp2_with fail
  refine (P5.out _ HBg.out).mono ?_; rintro e wh ⟨rfl, ih, rfl⟩
  have HBh := Lib.hid (bdrewN HBg.out ih)
  clear P5 HBg t2
  generalize wg.drewN ih = wh at HBh ⊢
  go_wp2_with fail
  refine (E2.out _ HBh.out).mono ?_; rintro e wi ⟨rfl, hbi⟩
  have HBi := Lib.hid (bcall HBh.out hbi)
 
  clear HBh hbi E2
  go_wp2_with fail
  go_ret
  exact ⟨by first | rfl | simp, HBi.out⟩
theorem law_good (p q : Option Addr) (n m cp cq : Nat) (f g : List Int) (w : World) (hH : Handle w) (hn : n = f.length) (hm : m = g.length) (hf : Ints w p cp f) (hg : Ints w q cq g) (hc : two f g = 0) : Law p q n m cp cq w := by
  obtain ⟨c, hc0⟩ : ∃ c : Int, c = 0 := ⟨_, rfl⟩
  rw [← hc0] at hc
  obtain ⟨c1, hc1⟩ : ∃ c1, one f = c1 := ⟨_, rfl⟩
  obtain ⟨lc, hlc⟩ : ∃ lc, lates f g = lc := ⟨_, rfl⟩
  obtain ⟨u, hu⟩ : ∃ u, (if c = 0 then fold f g else []) = u := ⟨_, rfl⟩
  obtain ⟨j, hj⟩ : ∃ j, u.length = j := ⟨_, rfl⟩
  obtain ⟨v, hv⟩ : ∃ v, (if c = 0 then backTo f g n else 0) = v := ⟨_, rfl⟩
  obtain ⟨d, hd⟩ : ∃ d, (if lc = 0 then waitTo f g n else 0) = d := ⟨_, rfl⟩
  obtain ⟨R, hR⟩ : ∃ R, (if c = 0 then under f g else false) = R := ⟨_, rfl⟩
  have P1 := Lib.hid (check_any p cp n f w hn hf c1 hc1)
  have P2 := Lib.hid (fun W (hW : Below w.heap.size w W) => fold_any p q cp cq n m f g W hn hm (hf.below hW) (hg.below hW) c hc u hu j hj)
  have P3 := Lib.hid (fun W (hW : Below w.heap.size w W) => back_any p q cp cq n m f g W hn hm (hf.below hW) (hg.below hW) c hc v hv)
  have P4 := Lib.hid (fun W (hW : Below w.heap.size w W) => wait_any p q cp cq n m f g W hn hm (hf.below hW) (hg.below hW) lc hlc d hd)
  have P5 := Lib.hid (fun W (hW : Below w.heap.size w W) => under_any p q cp cq n m f g W hn hm (hf.below hW) (hg.below hW) c hc R hR)
  have D1 := Lib.hid (fun i => rone_any p cp n f (w.drewN i) hn (hf.below (bdrewN (brefl w) i)) c1 hc1)
  have D2 := Lib.hid (fun W (hW : Below w.heap.size w W) => rtwo_any p q cp cq n m f g W hn hm (hf.below hW) (hg.below hW) c hc)
  have E1 := Lib.hid (fun W (hb : Below w.heap.size w W) => err_same c1 W (hH.below hb))
  have E2 := Lib.hid (fun W (hb : Below w.heap.size w W) => err_same c W (hH.below hb))
  have E3 := Lib.hid (fun W (hb : Below w.heap.size w W) => err_same lc W (hH.below hb))
  subst hc0
  rw [if_pos rfl] at hu hv hR
  obtain ⟨gf, gg, hfg⟩ := two_zero.1 hc
  obtain rfl : n = m := by rw [hn, hm, hfg]
  have hjn : j = n := by rw [← hj, ← hu, fold_len, hn]
  subst hjn
  have hL : (late f g j = true → d = 0 ∧ lc = 5) ∧ (late f g j = false → d = waitTo f g j ∧ lc = 0) := by
    unfold lates at hlc
    rw [if_neg (fun h => h hc), ← hn] at hlc
    refine ⟨fun h => ?_, fun h => ?_⟩
    · rw [if_pos h] at hlc
      subst hlc
      rw [if_neg (by decide)] at hd
      exact ⟨hd.symm, rfl⟩
    · rw [if_neg (by rw [h]; decide)] at hlc
      subst hlc
      rw [if_pos rfl] at hd
      exact ⟨hd.symm, rfl⟩
  obtain ⟨b1, o1, rfl⟩ := at_some hf gf.pos
  obtain ⟨b2, o2, rfl⟩ := at_some hg gg.pos
  have R1 := Lib.hid (fun W (hW : Below w.heap.size w W) => rfold_good b1 o1 b2 o2 cp cq j f g W hn hm (hf.below hW) (hg.below hW) gf gg _ rfl)
  rw [show foldTo f g j = u by rw [← hu, hn]; rfl] at R1
  have R2 := Lib.hid (fun W (hW : Below w.heap.size w W) => rback_good b1 o1 b2 o2 cp cq j f g W hn hm (hf.below hW) (hg.below hW) gf gg v hv)
  have R3 := Lib.hid (fun W (hW : Below w.heap.size w W) => runder_good b1 o1 b2 o2 cp cq j f g W hn hm (hf.below hW) (hg.below hW) gf gg R hR)
  have R4 := Lib.hid (fun W (hW : Below w.heap.size w W) => rwait_good b1 o1 b2 o2 cp cq j f g W hn hm (hf.below hW) (hg.below hW) gf gg d lc hL.1 hL.2)
  have HJ := Lib.hid hj
  clear hc hlc hc1 hn hm hf hg hj hu hv hd hR gf gg hfg hL hH
  generalize er c1 = V1 at P1 E1
  generalize er 0 = V at P2 P3 P5 E2
  generalize er lc = V2 at P4 E3
  unfold Law
  go_enter Tryd.func3, Tryd.ntmps3
  go_wp2_with fail
  refine P1.out.mono ?_; rintro e w1 ⟨rfl, i1, rfl⟩
  go_wp2_with fail
  refine (D1.out _).mono ?_; rintro e w2 ⟨rfl, i2, rfl⟩
  have HB2 : Hid (Below w.heap.size w ((w.drewN i1).drewN i2)) := Lib.hid (bdrewN (bdrewN (brefl w) i1) i2)
  clear P1 D1
  generalize (w.drewN i1).drewN i2 = w2 at HB2 ⊢
  go_wp2_with fail
  refine (E1.out _ HB2.out).mono ?_; rintro e w3 ⟨rfl, hb3⟩
  have HB3 := Lib.hid (bcall HB2.out hb3)
  clear HB2 hb3 E1
  go_wp2_with fail
  refine (D2.out _ HB3.out).mono ?_; rintro e w4 ⟨rfl, i4, rfl⟩
  have HB5 := Lib.hid (bdrewN HB3.out i4)
  clear HB3 D2
  generalize w3.drewN i4 = w5 at HB5 ⊢
  go_wp2_with fail
  refine (R1.out _ HB5.out).mono ?_; rintro e w6 ⟨⟨pw, cw, rfl, hiw⟩, hb6⟩
  have HB6 := Lib.hid (bcall HB5.out hb6)
  have HU6 := Lib.hid hiw
  clear R1 HB5 hiw hb6
  go_wp2_with fail
  refine (R2.out _ HB6.out).mono ?_; rintro e w7 ⟨rfl, i7, rfl⟩
  have HB7 := Lib.hid (bdrewN HB6.out i7)
  have HU7 := Lib.hid (HU6.out.below (bdrewN (brefl w6) i7))
  clear R2 HB6 HU6
  generalize w6.drewN i7 = w7 at HB7 HU7 ⊢
  go_wp2_with fail
  refine (R3.out _ HB7.out).mono ?_; rintro e w8 ⟨rfl, i8, rfl⟩
  have HB8 := Lib.hid (bdrewN HB7.out i8)
  have HU8 := Lib.hid (HU7.out.below (bdrewN (brefl w7) i8))
  clear R3 HB7 HU7
  generalize w7.drewN i8 = w8 at HB8 HU8 ⊢
  go_wp2_with fail
  refine (R4.out _ HB8.out).mono ?_; rintro e w9 ⟨rfl, i9, rfl⟩
  have HB9 := Lib.hid (bdrewN HB8.out i9)
  have HU9 := Lib.hid (HU8.out.below (bdrewN (brefl w8) i9))
  clear R4 HB8 HU8
  generalize w8.drewN i9 = w9 at HB9 HU9 ⊢
  go_wp2_with fail
  refine (P2.out _ HB9.out).mono ?_; rintro e wa ⟨⟨q1, k1, rfl, hia⟩, hba⟩
  have HBa := Lib.hid (bcall HB9.out hba)
  have HIa := Lib.hid (And.intro hia (HU9.out.below hba))
  clear P2 HB9 HU9 hia hba
  go_wp2_with fail
  refine (E2.out _ HBa.out).mono ?_; rintro e wb ⟨rfl, hbb⟩
  have HBb := Lib.hid (bcall HBa.out hbb)
  have SM := Lib.hid (ints_any _ _ _ _ j j u u wb HJ.out.symm HJ.out.symm (HIa.out.1.below hbb) (HIa.out.2.below hbb) true (by simp))
  clear HBa HIa hbb
  go_wp2_with fail
  refine SM.out.mono ?_; rintro e wc ⟨rfl, hbc⟩
  have HBc := Lib.hid (bcall HBb.out hbc)
  clear SM HBb hbc
  go_wp2_with fail
  refine (P3.out _ HBc.out).mono ?_; rintro e wd ⟨rfl, id, rfl⟩
  have HBd := Lib.hid (bdrewN HBc.out id)
  clear P3 HBc
  generalize wc.drewN id = wd at HBd ⊢
  go_wp2_with fail
  refine (E2.out _ HBd.out).mono ?_; rintro e we ⟨rfl, hbe⟩
  have HBe := Lib.hid (bcall HBd.out hbe)
  have t1 : (v == v) = true := by simp
  clear HBd hbe
  go_wp2_with fail
  refine (P4.out _ HBe.out).mono ?_; rintro e wf ⟨rfl, jf, rfl⟩
  have HBf := Lib.hid (bdrewN HBe.out jf)
  clear P4 HBe t1
  generalize we.drewN jf = wf at HBf ⊢
  go_wp2_with fail
  refine (E3.out _ HBf.out).mono ?_; rintro e wg ⟨rfl, hbg⟩
  have HBg := Lib.hid (bcall HBf.out hbg)
  have t2 : (d == d) = true := by simp
  clear HBf hbg E3
  go_wp2_with fail
  refine (P5.out _ HBg.out).mono ?_; rintro e wh ⟨rfl, ih, rfl⟩
  have HBh := Lib.hid (bdrewN HBg.out ih)
  clear P5 HBg t2
  generalize wg.drewN ih = wh at HBh ⊢
  go_wp2_with fail
  refine (E2.out _ HBh.out).mono ?_; rintro e wi ⟨rfl, hbi⟩
  have HBi := Lib.hid (bcall HBh.out hbi)
  have t3 : (R == R) = true := by simp
  have t4 : (R != R) = false := by simp
  clear HBh hbi E2
  go_wp2_with fail
  go_ret
  exact ⟨by first | rfl | simp, HBi.out⟩

theorem reads : Tryd.f3.params.toList.all (fun t => Tryd.prog.readableRec t && decide (t < Tryd.prog.types.size)) = true := by kernel_rfl
theorem et : Tryd.prog.globalNamed "errors.errorType" = some 0 := by kernel_rfl
theorem rt : (Tryd.prog.cutTypes.find? (·.1 == "internal/reflectlite.rtype")).map (·.2) = some 69 := by kernel_rfl
theorem oneRow : ((List.range Tryd.prog.types.size).filter fun t => Tryd.prog.rowNamed t [101, 114, 114, 111, 114]) = [25] := by kernel_rfl

theorem handle_of_laid {W : World} (h : laidMetH Tryd.prog Rows.curveSaysRow.laid W) : Handle W := by
  have h' : laidMet Tryd.prog [] W ∧ handlesMet Tryd.prog Rows.curveSaysRow.laid W := h
  obtain ⟨name, u, ty, e1, e2, e3, e4, e5⟩ := h'.2 _ (List.mem_singleton.2 rfl)
  have en : name = [101, 114, 114, 111, 114] := (Option.some.inj e1).symm
  subst en
  obtain rfl := Option.some.inj (rt.symm.trans e2)
  have hm : ty ∈ (List.range Tryd.prog.types.size).filter fun t => Tryd.prog.rowNamed t [101, 114, 114, 111, 114] := List.mem_filter.2 ⟨List.mem_range.2 e3, e4⟩
  rw [oneRow] at hm
  obtain rfl := List.mem_singleton.1 hm
  have hh : typeHandle Tryd.prog 25 = .pointer (some ⟨1, 25, none⟩) := by kernel_rfl
  rw [hh] at e5
  have e6 := World.var?_cell et e5 0
  unfold Handle
  simpa using e6

noncomputable def laidWorld (os : Os) : World :=
  { World.holding Tryd.prog os ⟨#[], #[], []⟩ with heap := (World.holding Tryd.prog os ⟨#[], #[], []⟩).heap.modify 0 fun
      | .cells _ t frozen => .cells #[.iface 69 (.agg #[.pointer (some ⟨1, 25, none⟩)])] t frozen
      | o => o }
theorem laid_met (os : Os) : laidMetH Tryd.prog Rows.curveSaysRow.laid ((laidWorld os).forCall (fun _ _ => 0) ⟨#[], #[.slice none 0 0, .slice none 0 0], []⟩).memory :=
  laidMetH_of_parts (laidMet_nil _ _) (by kernel_rfl)
theorem reads_wit (os : Os) {H : Type} (enc : TypeId × Value → H) : ∃ places, DataW.whole enc Tryd.prog ((laidWorld os).forCall (fun _ _ => 0) ⟨#[], #[.slice none 0 0, .slice none 0 0], []⟩).memory Tryd.f3.params.toList Rows.curveSaysSpec.vars false (#[.slice none 0 0, .slice none 0 0] : Array Value).toList 8 = some ([.nil, .nil], [], places) :=
  ⟨[], by kernel_rfl⟩

theorem contract (H : Type) (enc : TypeId × Value → H) (W : World) (base : Nat) (args : Array Value) (ds gs : List (DataW H)) (before : List MemPlace)
    (hval : ∀ (j : Nat) t v, Tryd.f3.params[j]? = some t → args[j]? = some v → Value.okWide Tryd.prog W .any base t v)
    (hW : DataW.Whole enc Tryd.prog Tryd.f3.params.toList Rows.curveSaysSpec.vars false W args.toList ds gs before) (hL : laidMetH Tryd.prog Rows.curveSaysRow.laid W) :
    Calls Tryd.prog 3 args W fun e W' => ∃ v, e = .returned v ∧ Rows.curveSaysSpec.post enc Tryd.prog Tryd.f3 false true false false W args v W' := by
  have hW' := hW
  have hg := handle_of_laid hL
  obtain ⟨p, q, hA0, hV, rfl, hfz, hnd⟩ := hW
  have hA : DataW.TrodAll enc Tryd.prog W 0 (fun _ => true) true Tryd.f3.params.toList args.toList ds p := hA0
  have hlt := hA.lt
  rw [Tryd.params3] at hA hval
  obtain ⟨v0, vs0, d0, ds0, p0, q0, hargs, rfl, rfl, h0, r0⟩ := trodAll_cons hA
  obtain ⟨v1, vs1, d1, ds1, p1, q1, hvs1, rfl, rfl, h1, r1⟩ := trodAll_cons r0
  obtain ⟨hvsn, rfl, rfl⟩ := trodAll_nil r1
  simp only [hvsn, hvs1] at hargs
  obtain rfl : args = #[v0, v1] := by cases args; simp_all
  obtain ⟨p0a, cap0, l0, rfl, i0⟩ := open_intsl Tryd.underlying22 Tryd.underlying3 (by kernel_rfl) (hval 0 22 v0 rfl rfl) h0 (fun x hx => hlt x (by simp [hx]))
  obtain ⟨p1a, cap1, l1, rfl, i1⟩ := open_intsl Tryd.underlying22 Tryd.underlying3 (by kernel_rfl) (hval 1 22 v1 rfl rfl) h1 (fun x hx => hlt x (by simp [hx]))
  obtain ⟨rfl, rfl⟩ := trodVars_none hV
  clear hA0
  exact law_post 4 laid reads rfl Tryd.underlying4 rfl hW' ⟨rfl, rfl, rfl⟩ (by
    by_cases h : two l0 l1 = 0
    · exact law_good _ _ _ _ _ _ l0 l1 W hg rfl rfl i0 i1 h
    · exact law_bad _ _ _ _ _ _ l0 l1 W hg rfl rfl i0 i1 _ rfl h)

set_option maxRecDepth 100000 in
theorem lifted (os : Os) (started : os.Started) (H : Type) (enc : TypeId × Value → H) (F : Stop.Interp) :
    ReturnsInHanded {} Tryd.checked os 3 .any ((OpenSpec.ofChange Rows.curveSaysSpec).preRow enc Tryd.prog Tryd.f3 Rows.curveSaysRow.domain false Rows.curveSaysRow.laid) (((OpenSpec.ofChange Rows.curveSaysSpec).at F).post enc Tryd.prog Tryd.f3 false true false false) := by
  obtain ⟨places, hx⟩ := reads_wit os enc
  refine returnsInHanded_of_row (C := Tryd.checked) (s := (OpenSpec.ofChange Rows.curveSaysSpec)) own started (by kernel_rfl) Tryd.func3
    (witness_row_at (enc := enc) (C := Tryd.checked) false (laidWorld os) #[.slice none 0 0, .slice none 0 0] rfl (by kernel_rfl) (by kernel_rfl) (by kernel_rfl)
      (OpenSpec.preRow_of_cond 8 hx (by kernel_rfl) (fun k hk => by cases hk) (by kernel_rfl) (laid_met os))) ?_
  intro W base args ds gs before hval hW _ hcond _ hL _ _
  exact contract H enc W base args ds gs before hval hW hL

theorem said : Rows.CurveSaysSaid :=
  OpenClaim.holds_of_cond 3 Tryd.f3 rfl rfl rfl rfl rfl rfl rfl ⟨rfl, rfl, rfl, rfl, rfl⟩ rfl rfl rfl rfl rfl (by kernel_rfl) Tryd.func3 (by kernel_rfl)
    (of_decide_eq_true (by kernel_rfl)) (by unfold Func.isWrapper; first | (rw [if_pos (by decide +kernel)]; kernel_rfl) | (rw [if_neg (by decide +kernel)]; exact ⟨rfl, rfl⟩))
    (fun os started H enc _ F => by rw [OpenClaim.pre_eq_preRow]; exact lifted os started H enc F)

theorem plain (f : FuncId) (fn : Func) (hf : Tryd.pinned.checked.prog.funcNamed Rows.curveSaysRow.func = some f) (hfn : Tryd.pinned.checked.prog.funcs[f]? = some fn) :
    true = Tryd.pinned.checked.prog.looks [] ∧ ∀ (j : Nat) t, fn.params[j]? = some t → Tryd.pinned.checked.prog.wantsStandIn t = false := by
  obtain rfl : f = 3 := Option.some.inj ((show Tryd.prog.funcNamed Rows.curveSaysRow.func = some 3 by kernel_rfl).symm.trans hf) |>.symm
  obtain rfl : fn = Tryd.f3 := (Option.some.inj (Tryd.func3.symm.trans hfn)).symm
  refine ⟨by kernel_rfl, fun j t ht => ?_⟩
  have hall : Tryd.f3.params.toList.all (fun t => !Tryd.prog.wantsStandIn t) = true := by kernel_rfl
  have hm : t ∈ Tryd.f3.params.toList := by simpa using Array.mem_of_getElem? ht
  have := List.all_eq_true.1 hall t hm
  show Tryd.prog.wantsStandIn t = false
  simpa using this

theorem proved : Rows.CurveSaysCardSaid :=
  Claim7.holds_tied_plain_at .later [] _ _ _ _ said (fun _ h => by cases h) (by kernel_rfl) (fun _ h => by cases h) curveSays_row_tie rfl ⟨rfl, rfl⟩ (by kernel_rfl) rfl plain (by kernel_rfl)
end Go.Proofs.YtfinfdcpepiadaaDoor.CurveSaysL
