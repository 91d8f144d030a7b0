/- The functions of package gbn return what the document specifies: the law returns true for every input. No condition beyond what the card itself lists (the variable errors.errorType). -/
import Derived.Test.YtainefacghlmjaaDoorGbnRef
import Derived.Test.YtainefacghlmjaaDoorSame
import Derived.Test.YtainefacghlmjaaDoorAs
import Derived.Test.YtainefacghlmjaaDoorCards
import Derived.Test.YtainefacghlmjaaDoorTie
import Derived.Deep.DeepHandedRow
import Derived.Lib.LaidTab
import Derived.LaidHandle
import Derived.SevenTiedAt

namespace Go.Proofs.YtainefacghlmjaaDoor.gbnSaysP
open Go.ChangeShapes Go.WideShapes Go.ChangeAt Go.RowKit
open Go.Proofs.YtainefacghlmjaaDoor.Kit Go.Proofs.YtainefacghlmjaaDoor.App Go.Proofs.YtainefacghlmjaaDoor.Cells Go.Proofs.YtainefacghlmjaaDoor.Fate Go.Proofs.YtainefacghlmjaaDoor.Abp Go.Proofs.YtainefacghlmjaaDoor.GbnMath Go.Proofs.YtainefacghlmjaaDoor.Gbn Go.Proofs.YtainefacghlmjaaDoor.As
set_option linter.unusedVariables false
set_option maxRecDepth 20000

theorem err_same (c : Int) (w : World) (hg : Handle w) : Calls Tryd.prog 5 #[er c, .int .i64 c] w fun e w' => e = .returned (.bool true) ∧ Below w.heap.size w w' :=
  (error_any c c w hg).mono fun e w' ⟨h1, h2⟩ => ⟨by rw [h1]; simp, h2⟩
abbrev Law (p q : Option Addr) (cap cq : Nat) (l : List Int) (W R : Int) (fs : List Fat) (w : World) : Prop := Calls Tryd.prog 3 #[.slice p l.length cap, .int .i64 W, .int .i64 R, .slice q fs.length cq] w fun e w' => e = .returned (.bool true) ∧ Below w.heap.size w w'
set_option maxHeartbeats 1000000 in
theorem law_bad (p q : Option Addr) (cap cq : Nat) (l : List Int) (W R : Int) (fs : List Fat) (w : World) (hg : Handle w) (hi : Ints w p cap l) (hf : CI lay w q cq fs) (h0 : badG l W R fs.length ≠ 0) : Law p q cap cq l W R fs w := by
  obtain ⟨c, hc⟩ : ∃ c, c = badG l W R fs.length := ⟨_, rfl⟩
  rw [← hc] at h0
  have SE := Lib.hid (ahead_any p q cap cq l.length fs.length l W R w rfl hi hf.len_le c hc)
  have CK := Lib.hid (Gbn.check_any p q cap cq l.length fs.length l W R w rfl hi hf.len_le c hc)
  have RB := Lib.hid (fun w' (hb : Below w.heap.size w w') => Gbn.run_bad p q cap cq l.length fs.length l W R w' rfl (hi.below hb) hf.len_le c hc h0)
  have ER := Lib.hid (fun w' (hb : Below w.heap.size w w') => err_same c w' (hg.below hb))
  have EQ := Lib.hid (fun W => ints_any none none 0 0 0 0 [] [] W rfl rfl (Ints.nil W) (Ints.nil W) true rfl)
  rw [er_ne h0] at CK RB ER
  have t0 : (c == 0) = false := by rw [beq_eq_false_iff_ne]; exact h0
  have hlen := hi.len_le
  have hlm := hf.len_le
  clear hi hf hc hg
  unfold Law
  go_enter Tryd.func3, Tryd.ntmps3
  go_wp2_with fail
  refine SE.out.mono ?_; rintro e w1 ⟨rfl, rfl⟩
  go_wp2_with fail
  refine CK.out.mono ?_; rintro e w2 ⟨rfl, rfl⟩
  go_wp2_with fail
  refine (ER.out _ (brefl _)).mono ?_; rintro e w3 ⟨rfl, hb3⟩
  go_wp2_with fail
  refine (RB.out _ hb3).mono ?_; rintro e w4 ⟨rfl, rfl⟩
  go_wp2_with fail
  refine (ER.out _ hb3).mono ?_; rintro e w5 ⟨rfl, hb5⟩
  have hB5 := bcall hb3 hb5
  go_wp2_with fail
  refine (EQ.out _).mono ?_; rintro e w6 ⟨rfl, hb6⟩
  have hB6 := bcall hB5 hb6
  go_wp2_with fail
  go_ret
  exact ⟨rfl, hB6⟩
set_option maxHeartbeats 1000000 in
theorem law_good (p q : Option Addr) (cap cq : Nat) (l : List Int) (W R : Nat) (fs : List Fat) (w : World) (hg : Handle w) (hi : Ints w p cap l) (hf : CI lay w q cq fs) (h0 : badG l W R fs.length = 0) : Law p q cap cq l W R fs w := by
  obtain ⟨n, hn⟩ : ∃ n, n = l.length := ⟨_, rfl⟩
  obtain ⟨m, hm⟩ : ∃ m, m = fs.length := ⟨_, rfl⟩
  obtain ⟨hb0, _⟩ := (badG_zero l W R fs.length).1 h0
  obtain ⟨hl20, hm200, _⟩ := (bad_zero l fs.length).1 hb0
  unfold Law
  rw [← hm] at h0 hm200 ⊢
  rw [← hn] at hl20 ⊢
  obtain ⟨K, G, hr⟩ : ∃ K G, GbnMath.run l W R fs 0 0 [] = (K, G) := ⟨_, _, rfl⟩
  obtain ⟨c, hc⟩ : ∃ c, G.length = c := ⟨_, rfl⟩
  have SE := Lib.hid (ahead_any p q cap cq n m l W R w hn hi (by omega) 0 h0.symm)
  have CK := Lib.hid (Gbn.check_any p q cap cq n m l W R w hn hi (by omega) 0 h0.symm)
  have RF := Lib.hid (fun w' (hb : Below w.heap.size w w') => ref_gbn p q cap cq n m W R l fs w' hn hm (hi.below hb) (hf.below hb) h0 K G hr)
  have RG := Lib.hid (fun w' (hb : Below w.heap.size w w') => Gbn.run_good p q cap cq n m W R l fs w' hn hm (hi.below hb) (hf.below hb) h0 K G hr)
  have ER := Lib.hid (fun w' (hb : Below w.heap.size w w') => err_same 0 w' (hg.below hb))
  have EQ := Lib.hid (fun p1 p2 c1 c2 w' (h1 : Ints w' p1 c1 G) (h2 : Ints w' p2 c2 G) => ints_any p1 p2 c1 c2 c c G G w' hc.symm hc.symm h1 h2 true (by simp))
  rw [er_0] at CK ER
  have HTL := Lib.hid hc
  clear hc hb0
  clear hi hf hn hm h0 hr hg
  go_enter Tryd.func3, Tryd.ntmps3
  go_wp2_with fail
  refine SE.out.mono ?_; rintro e w1 ⟨rfl, rfl⟩
  go_wp2_with fail
  refine CK.out.mono ?_; rintro e w2 ⟨rfl, rfl⟩
  go_wp2_with fail
  refine (ER.out _ (brefl _)).mono ?_; rintro e w3 ⟨rfl, hb3⟩
  go_wp2_with fail
  refine (RF.out _ hb3).mono ?_; rintro e w4 ⟨v, rfl, ho, hb4⟩
  have hB4 := bcall hb3 hb4
  obtain ⟨vp, vc, rfl, hvi⟩ := ho.form
  rw [HTL.out]
  have HV := Lib.hid hvi
  clear ho hb4 hvi
  go_wp2_with fail
  refine (RG.out _ hB4).mono ?_; rintro e w5 ⟨v, rfl, ho, hb5⟩
  have hB5 := bcall hB4 hb5
  obtain ⟨vp2, vc2, rfl, hvi2⟩ := ho.form
  rw [HTL.out]
  have HV2 := Lib.hid hvi2
  have HVb := Lib.hid (HV.out.below hb5)
  clear ho hb5 hvi2 HV
  go_wp2_with fail
  refine (ER.out _ hB5).mono ?_; rintro e w6 ⟨rfl, hb6⟩
  have hB6 := bcall hB5 hb6
  have HVc := Lib.hid (HVb.out.below hb6)
  have HV2c := Lib.hid (HV2.out.below hb6)
  clear hb6
  go_wp2_with fail
  refine (EQ.out _ _ _ _ _ HV2c.out HVc.out).mono ?_; rintro e w7 ⟨rfl, hb7⟩
  have hB7 := bcall hB6 hb7
  go_wp2_with fail
  go_ret
  exact ⟨rfl, hB7⟩

theorem reads : Tryd.f3.params.toList.all (fun t => Tryd.prog.readableRec t && decide (t < Tryd.prog.types.size)) = true := by kernel_rfl
theorem et : Tryd.prog.globalNamed "errors.errorType" = some 0 := by kernel_rfl
theorem rt : (Tryd.prog.cutTypes.find? (·.1 == "internal/reflectlite.rtype")).map (·.2) = some 62 := by kernel_rfl
theorem oneRow : ((List.range Tryd.prog.types.size).filter fun t => Tryd.prog.rowNamed t [101, 114, 114, 111, 114]) = [27] := by kernel_rfl

theorem handle_of_laid {W : World} (h : laidMetH Tryd.prog Rows.gbnSaysRow.laid W) : Handle W := by
  have h' : laidMet Tryd.prog [] W ∧ handlesMet Tryd.prog Rows.gbnSaysRow.laid W := h
  obtain ⟨name, u, ty, e1, e2, e3, e4, e5⟩ := h'.2 _ (List.mem_singleton.2 rfl)
  have en : name = [101, 114, 114, 111, 114] := (Option.some.inj e1).symm
  subst en
  obtain rfl := Option.some.inj (rt.symm.trans e2)
  have hm : ty ∈ (List.range Tryd.prog.types.size).filter fun t => Tryd.prog.rowNamed t [101, 114, 114, 111, 114] := List.mem_filter.2 ⟨List.mem_range.2 e3, e4⟩
  rw [oneRow] at hm
  obtain rfl := List.mem_singleton.1 hm
  have hh : typeHandle Tryd.prog 27 = .pointer (some ⟨1, 27, none⟩) := by kernel_rfl
  rw [hh] at e5
  have e6 := World.var?_cell et e5 0
  unfold Handle
  simpa using e6

noncomputable def laidWorld (os : Os) : World :=
  { World.holding Tryd.prog os ⟨#[], #[], []⟩ with heap := (World.holding Tryd.prog os ⟨#[], #[], []⟩).heap.modify 0 fun
      | .cells _ t frozen => .cells #[.iface 62 (.agg #[.pointer (some ⟨1, 27, none⟩)])] t frozen
      | o => o }
theorem laid_met (os : Os) : laidMetH Tryd.prog Rows.gbnSaysRow.laid ((laidWorld os).forCall (fun _ _ => 0) ⟨#[], #[.slice none 0 0, .int .i64 0, .int .i64 0, .slice none 0 0], []⟩).memory :=
  laidMetH_of_parts (laidMet_nil _ _) (by kernel_rfl)
theorem reads_wit (os : Os) {H : Type} (enc : TypeId × Value → H) : ∃ places, DataW.whole enc Tryd.prog ((laidWorld os).forCall (fun _ _ => 0) ⟨#[], #[.slice none 0 0, .int .i64 0, .int .i64 0, .slice none 0 0], []⟩).memory Tryd.f3.params.toList Rows.gbnSaysSpec.vars false (#[.slice none 0 0, .int .i64 0, .int .i64 0, .slice none 0 0] : Array Value).toList 8 = some ([.nil, .lit (.int .i64 0), .lit (.int .i64 0), .nil], [], places) :=
  ⟨[], by kernel_rfl⟩

theorem contract (H : Type) (enc : TypeId × Value → H) (W : World) (base : Nat) (args : Array Value) (ds gs : List (DataW H)) (before : List MemPlace)
    (hval : ∀ (j : Nat) t v, Tryd.f3.params[j]? = some t → args[j]? = some v → Value.okWide Tryd.prog W .any base t v)
    (hW : DataW.Whole enc Tryd.prog Tryd.f3.params.toList Rows.gbnSaysSpec.vars false W args.toList ds gs before) (hL : laidMetH Tryd.prog Rows.gbnSaysRow.laid W) :
    Calls Tryd.prog 3 args W fun e W' => ∃ v, e = .returned v ∧ Rows.gbnSaysSpec.post enc Tryd.prog Tryd.f3 false true false false W args v W' := by
  have hW' := hW
  have hg := handle_of_laid hL
  obtain ⟨p, q, hA0, hV, rfl, hfz, hnd⟩ := hW
  have hA : DataW.TrodAll enc Tryd.prog W 0 (fun _ => true) true Tryd.f3.params.toList args.toList ds p := hA0
  have hlt := hA.lt
  rw [Tryd.params3] at hA hval
  obtain ⟨v0, vs0, d0, ds0, p0, q0, hargs, rfl, rfl, h0, r0⟩ := trodAll_cons hA
  obtain ⟨v1, vs1, d1, ds1, p1, q1, hvs1, rfl, rfl, h1, r1⟩ := trodAll_cons r0
  obtain ⟨v2, vs2, d2, ds2, p2, q2, hvs2, rfl, rfl, h2, r2⟩ := trodAll_cons r1
  obtain ⟨v3, vs3, d3, ds3, p3, q3, hvs3, rfl, rfl, h3, r3⟩ := trodAll_cons r2
  obtain ⟨hvsn, rfl, rfl⟩ := trodAll_nil r3
  simp only [hvsn, hvs3, hvs2, hvs1] at hargs
  obtain rfl : args = #[v0, v1, v2, v3] := by cases args; simp_all
  obtain ⟨p0a, cap0, l0, rfl, i0⟩ := open_intsl Tryd.underlying22 Tryd.underlying3 (by kernel_rfl) (hval 0 22 v0 rfl rfl) h0 (fun x hx => hlt x (by simp [hx]))
  obtain ⟨a1, rfl, rfl, rfl, w1⟩ := open_int Tryd.underlying3 (hval 1 3 v1 rfl rfl) h1
  have b1 := bounds_int w1
  obtain ⟨a2, rfl, rfl, rfl, w2⟩ := open_int Tryd.underlying3 (hval 2 3 v2 rfl rfl) h2
  have b2 := bounds_int w2
  obtain ⟨p3a, cap3, l3, rfl, i3, e3⟩ := Go.Proofs.YtainefacghlmjaaDoor.Fate.open_fates (hval 3 23 v3 rfl rfl) h3 (fun x hx => hlt x (by simp [hx]))
  obtain ⟨rfl, rfl⟩ := trodVars_none hV
  clear hA0
  exact law_post 4 laid reads rfl Tryd.underlying4 rfl hW' ⟨rfl, rfl, rfl⟩ (by
    by_cases h : Gbn.badG l0 a1 a2 l3.length = 0
    · obtain ⟨_, h1, h2, h3, h4⟩ := (badG_zero l0 a1 a2 l3.length).1 h
      obtain ⟨W', rfl⟩ : ∃ k : Nat, a1 = k := ⟨a1.toNat, by omega⟩
      obtain ⟨R', rfl⟩ : ∃ k : Nat, a2 = k := ⟨a2.toNat, by omega⟩
      exact law_good p0a p3a cap0 cap3 l0 W' R' l3 W hg i0 i3 h
    · exact law_bad p0a p3a cap0 cap3 l0 a1 a2 l3 W hg i0 i3 h)

set_option maxRecDepth 100000 in
theorem lifted (os : Os) (started : os.Started) (H : Type) (enc : TypeId × Value → H) (F : Stop.Interp) :
    ReturnsInHanded {} Tryd.checked os 3 .any ((OpenSpec.ofChange Rows.gbnSaysSpec).preRow enc Tryd.prog Tryd.f3 Rows.gbnSaysRow.domain false Rows.gbnSaysRow.laid) (((OpenSpec.ofChange Rows.gbnSaysSpec).at F).post enc Tryd.prog Tryd.f3 false true false false) := by
  obtain ⟨places, hx⟩ := reads_wit os enc
  refine returnsInHanded_of_row (C := Tryd.checked) (s := (OpenSpec.ofChange Rows.gbnSaysSpec)) own started (by kernel_rfl) Tryd.func3
    (witness_row_at (enc := enc) (C := Tryd.checked) false (laidWorld os) #[.slice none 0 0, .int .i64 0, .int .i64 0, .slice none 0 0] rfl (by kernel_rfl) (by kernel_rfl) (by kernel_rfl)
      (OpenSpec.preRow_of_cond 8 hx (by kernel_rfl) (fun k hk => by cases hk) (by kernel_rfl) (laid_met os))) ?_
  intro W base args ds gs before hval hW _ hcond _ hL _ _
  exact contract H enc W base args ds gs before hval hW hL

theorem said : Rows.GbnSaysSaid :=
  OpenClaim.holds_of_cond 3 Tryd.f3 rfl rfl rfl rfl rfl rfl rfl ⟨rfl, rfl, rfl, rfl, rfl⟩ rfl rfl rfl rfl rfl (by kernel_rfl) Tryd.func3 (by kernel_rfl)
    (of_decide_eq_true (by kernel_rfl)) (by unfold Func.isWrapper; first | (rw [if_pos (by decide +kernel)]; kernel_rfl) | (rw [if_neg (by decide +kernel)]; exact ⟨rfl, rfl⟩))
    (fun os started H enc _ F => by rw [OpenClaim.pre_eq_preRow]; exact lifted os started H enc F)

theorem plain (f : FuncId) (fn : Func) (hf : Tryd.pinned.checked.prog.funcNamed Rows.gbnSaysRow.func = some f) (hfn : Tryd.pinned.checked.prog.funcs[f]? = some fn) :
    true = Tryd.pinned.checked.prog.looks [] ∧ ∀ (j : Nat) t, fn.params[j]? = some t → Tryd.pinned.checked.prog.wantsStandIn t = false := by
  obtain rfl : f = 3 := Option.some.inj ((show Tryd.prog.funcNamed Rows.gbnSaysRow.func = some 3 by kernel_rfl).symm.trans hf) |>.symm
  obtain rfl : fn = Tryd.f3 := (Option.some.inj (Tryd.func3.symm.trans hfn)).symm
  refine ⟨by kernel_rfl, fun j t ht => ?_⟩
  have hall : Tryd.f3.params.toList.all (fun t => !Tryd.prog.wantsStandIn t) = true := by kernel_rfl
  have hm : t ∈ Tryd.f3.params.toList := by simpa using Array.mem_of_getElem? ht
  have := List.all_eq_true.1 hall t hm
  show Tryd.prog.wantsStandIn t = false
  simpa using this

theorem proved : Rows.GbnSaysCardSaid :=
  Claim7.holds_tied_plain_at .later [] _ _ _ _ said (fun _ h => by cases h) (by kernel_rfl) (fun _ h => by cases h) gbnSays_row_tie rfl ⟨rfl, rfl⟩ (by kernel_rfl) rfl plain (by kernel_rfl)
end Go.Proofs.YtainefacghlmjaaDoor.gbnSaysP
