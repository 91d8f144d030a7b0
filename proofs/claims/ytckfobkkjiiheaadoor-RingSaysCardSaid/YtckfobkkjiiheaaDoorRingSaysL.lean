/- RingSays: for all arguments, the functions of package ring return what the document specifies: for every input, the row's handle laid as the card says. -/
import Derived.Test.YtckfobkkjiiheaaDoorCards
import Derived.Test.YtckfobkkjiiheaaDoorTie
import Derived.Deep.DeepHandedRow
import Derived.Lib.LaidTab
import Derived.LaidHandle
import Derived.SevenTiedAt
import Derived.Test.YtckfobkkjiiheaaDoorRingOps
import Derived.Test.YtckfobkkjiiheaaDoorRingRef
import Derived.Test.YtckfobkkjiiheaaDoorSame
import Derived.Test.YtckfobkkjiiheaaDoorErrSame
import Derived.Test.YtckfobkkjiiheaaDoorIn4
namespace Go.Proofs.YtckfobkkjiiheaaDoor.RingSaysL
open Go.ChangeShapes Go.WideShapes Go.ChangeAt Go.RowKit Go.Proofs.YtckfobkkjiiheaaDoor.Kit Go.Proofs.YtckfobkkjiiheaaDoor.App Go.Proofs.YtckfobkkjiiheaaDoor.Err Go.Proofs.YtckfobkkjiiheaaDoor.RingMath Go.Proofs.YtckfobkkjiiheaaDoor.Ring Go.Proofs.YtckfobkkjiiheaaDoor.As
set_option linter.unusedVariables false
set_option maxRecDepth 20000
set_option maxHeartbeats 4000000

abbrev Law (p : Option Addr) (cap n : Nat) (x : Int) (w : World) : Prop := Calls Tryd.prog 3 #[.slice p n cap, .int .i64 x] w fun e w' => e = .returned (.bool true) ∧ Below w.heap.size w w'
theorem ints_nil (W : World) : Ints W none 0 [] := ints_none W _ _ _ (by unfold maxLen; omega) rfl
theorem none_same (W : World) : Calls Tryd.prog 11 #[.slice none 0 0, .slice none 0 0] W fun e w' => e = .returned (.bool true) ∧ Below W.heap.size W w' := ints_any none none 0 0 0 0 [] [] W rfl rfl (ints_nil W) (ints_nil W) true (by decide)
theorem law_bad (p : Option Addr) (cap n : Nat) (l : List Int) (x : Int) (w : World) (hH : Handle w) (hn : n = l.length) (hi : Ints w p cap l) (c : Int) (hc : Ring.code l = c) (h0 : c ≠ 0) : Law p cap n x w := by
  have D1 := Lib.hid (rwaits_any p cap n l w hn hi c hc)
  have hw1 : codeH l x = c := by unfold codeH; rw [if_neg (by rw [hc]; exact h0), hc]
  have CK := Lib.hid (fun W (hW : Below w.heap.size w W) => check_any p cap n l W hn (hi.below hW) c hc)
  have RB := Lib.hid (fun W (hW : Below w.heap.size w W) => run_bad p cap n l x W hn (hi.below hW) c hw1 h0)
  have GB := Lib.hid (fun W (hW : Below w.heap.size w W) => gap_bad p cap n l x W hn (hi.below hW) c hw1 h0)
  have E1 := Lib.hid (fun W (hb : Below w.heap.size w W) => err_same c W (hH.below hb))
  have E0 := Lib.hid E1.out
  have t0 : (c == 0) = false := by rw [beq_eq_false_iff_ne]; exact h0
  clear hn hi hc h0 hH hw1
  generalize er c = V at E1 E0 RB GB CK
  unfold Law
  go_enter Tryd.func3, Tryd.ntmps3
  go_wp2_with fail
  refine D1.out.mono ?_; rintro e w1 ⟨rfl, hb⟩
  have HB1 := Lib.hid hb
  clear hb D1
  go_wp2_with fail
  refine (CK.out w1 HB1.out).mono ?_; rintro e w2 ⟨rfl, hb⟩
  have HB2 := Lib.hid (bcall HB1.out hb)
  clear hb CK HB1
  go_wp2_with fail
  refine (E0.out w2 HB2.out).mono ?_; rintro e w3 ⟨rfl, hb⟩
  have HB3 := Lib.hid (bcall HB2.out hb)
  clear hb HB2
  go_wp2_with fail
  refine (RB.out w3 HB3.out).mono ?_; rintro e w4 ⟨rfl, hb⟩
  have HB4 := Lib.hid (bcall HB3.out hb)
  clear hb RB HB3
  go_wp2_with fail
  refine (E1.out w4 HB4.out).mono ?_; rintro e w5 ⟨rfl, hb⟩
  have HB5 := Lib.hid (bcall HB4.out hb)
  clear hb HB4
  go_wp2_with fail
  refine (none_same w5).mono ?_; rintro e w6 ⟨rfl, hb⟩
  have HB6 := Lib.hid (bcall HB5.out hb)
  clear hb HB5
  go_wp2_with fail
  refine (GB.out w6 HB6.out).mono ?_; rintro e w7 ⟨rfl, hb⟩
  have HB7 := Lib.hid (bcall HB6.out hb)
  clear hb GB HB6
  go_wp2_with fail
  refine (E1.out w7 HB7.out).mono ?_; rintro e w8 ⟨rfl, hb⟩
  have HB8 := Lib.hid (bcall HB7.out hb)
  clear hb HB7
  go_wp2_with fail
  go_ret
  exact ⟨by first | rfl | simp, HB8.out⟩
theorem law_out (p : Option Addr) (cap n : Nat) (l : List Int) (x : Int) (w : World) (hH : Handle w) (hn : n = l.length) (hi : Ints w p cap l) (hc : Ring.code l = 0) (hx : ¬ (1 ≤ x ∧ x ≤ 20)) : Law p cap n x w := by
  have D1 := Lib.hid (rwaits_any p cap n l w hn hi 0 hc)
  have hw1 : codeH l x = 1 := by unfold codeH; rw [if_pos hc, if_neg hx]
  have CK := Lib.hid (fun W (hW : Below w.heap.size w W) => check_any p cap n l W hn (hi.below hW) 0 hc)
  have RB := Lib.hid (fun W (hW : Below w.heap.size w W) => run_bad p cap n l x W hn (hi.below hW) 1 hw1 (by decide))
  have GB := Lib.hid (fun W (hW : Below w.heap.size w W) => gap_bad p cap n l x W hn (hi.below hW) 1 hw1 (by decide))
  have E1 := Lib.hid (fun W (hb : Below w.heap.size w W) => err_same 1 W (hH.below hb))
  have E0 := Lib.hid (fun W (hb : Below w.heap.size w W) => err_same 0 W (hH.below hb))
  have IN := Lib.hid (fun W => in_any x 1 20 W false (in_false hx))
  rw [er_0] at E0 CK
  clear hn hi hc hH hw1 hx
  generalize er 1 = V at E1 RB GB
  unfold Law
  go_enter Tryd.func3, Tryd.ntmps3
  go_wp2_with fail
  refine D1.out.mono ?_; rintro e w1 ⟨rfl, hb⟩
  have HB1 := Lib.hid hb
  clear hb D1
  go_wp2_with fail
  refine (CK.out w1 HB1.out).mono ?_; rintro e w2 ⟨rfl, hb⟩
  have HB2 := Lib.hid (bcall HB1.out hb)
  clear hb CK HB1
  go_wp2_with fail
  refine (E0.out w2 HB2.out).mono ?_; rintro e w3 ⟨rfl, hb⟩
  have HB3 := Lib.hid (bcall HB2.out hb)
  clear hb HB2
  go_wp2_with fail
  refine (IN.out w3).mono ?_; rintro e w9 ⟨rfl, hw9⟩
  rw [hw9]
  clear hw9 w9
  go_wp2_with fail
  refine (RB.out w3 HB3.out).mono ?_; rintro e w4 ⟨rfl, hb⟩
  have HB4 := Lib.hid (bcall HB3.out hb)
  clear hb RB HB3
  go_wp2_with fail
  refine (E1.out w4 HB4.out).mono ?_; rintro e w5 ⟨rfl, hb⟩
  have HB5 := Lib.hid (bcall HB4.out hb)
  clear hb HB4
  go_wp2_with fail
  refine (none_same w5).mono ?_; rintro e w6 ⟨rfl, hb⟩
  have HB6 := Lib.hid (bcall HB5.out hb)
  clear hb HB5
  go_wp2_with fail
  refine (GB.out w6 HB6.out).mono ?_; rintro e w7 ⟨rfl, hb⟩
  have HB7 := Lib.hid (bcall HB6.out hb)
  clear hb GB HB6
  go_wp2_with fail
  refine (E1.out w7 HB7.out).mono ?_; rintro e w8 ⟨rfl, hb⟩
  have HB8 := Lib.hid (bcall HB7.out hb)
  clear hb HB7
  go_wp2_with fail
  go_ret
  exact ⟨by first | rfl | simp, HB8.out⟩
theorem law_good (p : Option Addr) (cap n : Nat) (l : List Int) (h : Nat) (w : World) (hH : Handle w) (hn : n = l.length) (hi : Ints w p cap l) (g : Ring.Good l h) : Law p cap n (h : Int) w := by
  have D1 := Lib.hid (rwaits_any p cap n l w hn hi 0 g.code)
  have CK := Lib.hid (fun W (hW : Below w.heap.size w W) => check_any p cap n l W hn (hi.below hW) 0 g.code)
  have RG := Lib.hid (fun W (hW : Below w.heap.size w W) => run_good p cap n l h W hn (hi.below hW) g)
  have GG := Lib.hid (fun W (hW : Below w.heap.size w W) => gap_good p cap n l h W hn (hi.below hW) g)
  have RR := Lib.hid (fun W (hW : Below w.heap.size w W) => rring_any p cap n l h W hn (hi.below hW) g)
  have E0 := Lib.hid (fun W (hb : Below w.heap.size w W) => err_same 0 W (hH.below hb))
  have IN := Lib.hid (fun W => in_any (h : Int) 1 20 W true (in_true ⟨by have := g.h1; omega, by have := g.h20; omega⟩))
  have h160 := g.len.2
  rw [er_0] at E0 CK
  obtain ⟨L, hL⟩ : ∃ L, ord l h = L := ⟨_, rfl⟩
  rw [hL] at RG GG RR h160
  have H160 := Lib.hid h160
  clear hn hi hH g hL h160
  unfold Law
  go_enter Tryd.func3, Tryd.ntmps3
  go_wp2_with fail
  refine D1.out.mono ?_; rintro e w1 ⟨rfl, hb⟩
  have HB1 := Lib.hid hb
  clear hb D1
  go_wp2_with fail
  refine (CK.out w1 HB1.out).mono ?_; rintro e w2 ⟨rfl, hb⟩
  have HB2 := Lib.hid (bcall HB1.out hb)
  clear hb CK HB1
  go_wp2_with fail
  refine (E0.out w2 HB2.out).mono ?_; rintro e w3 ⟨rfl, hb⟩
  have HB3 := Lib.hid (bcall HB2.out hb)
  clear hb HB2
  go_wp2_with fail
  refine (IN.out w3).mono ?_; rintro e w9 ⟨rfl, hw9⟩
  rw [hw9]
  clear hw9 w9
  go_wp2_with fail
  refine (RR.out w3 HB3.out).mono ?_; rintro e w4 ⟨v, rfl, hov, hb⟩
  have HB4 := Lib.hid (bcall HB3.out hb)
  obtain ⟨q, cq, rfl, iq⟩ := hov.form
  rw [nat_len]
  have IQ := Lib.hid iq
  have GA := Lib.hid (rgap_any q cq L.length L w4 rfl iq (by have := H160.out; omega))
  clear RR HB3 hov hb iq
  obtain ⟨k0, hk0⟩ : ∃ k0, L.length = k0 := ⟨_, rfl⟩
  rw [hk0] at GA ⊢
  have HK := Lib.hid hk0
  clear hk0
  go_wp2_with fail
  refine GA.out.mono ?_; rintro e w5 ⟨rfl, hb⟩
  have HB5 := Lib.hid (bcall HB4.out hb)
  have IQ5 := Lib.hid (IQ.out.below hb)
  clear GA HB4 hb IQ
  obtain ⟨g0, hg0⟩ : ∃ g0, gap L = g0 := ⟨_, rfl⟩
  rw [hg0] at GG ⊢
  clear hg0
  go_wp2_with fail
  refine (RG.out w5 HB5.out).mono ?_; rintro e w6 ⟨u, rfl, hou, hb⟩
  have HB6 := Lib.hid (bcall HB5.out hb)
  have IQ6 := Lib.hid (IQ5.out.below hb)
  obtain ⟨pu, cu, rfl, iu⟩ := hou.form
  rw [nat_len, HK.out]
  have IU6 := Lib.hid iu
  clear RG HB5 hou hb IQ5 iu
  go_wp2_with fail
  refine (E0.out w6 HB6.out).mono ?_; rintro e w7 ⟨rfl, hb⟩
  have HB7 := Lib.hid (bcall HB6.out hb)
  have SM := Lib.hid (ints_any pu q cu cq k0 k0 (nat L) (nat L) w7 (by rw [nat_len, HK.out]) (by rw [nat_len, HK.out]) (IU6.out.below hb) (IQ6.out.below hb) true (by simp))
  clear HB6 hb IQ6 IU6
  go_wp2_with fail
  refine SM.out.mono ?_; rintro e w8 ⟨rfl, hb⟩
  have HB8 := Lib.hid (bcall HB7.out hb)
  clear HB7 hb SM
  go_wp2_with fail
  refine (GG.out w8 HB8.out).mono ?_; rintro e w9 ⟨rfl, hb⟩
  have HB9 := Lib.hid (bcall HB8.out hb)
  have t5 : ((g0 : Int) == (g0 : Int)) = true := by simp
  clear GG HB8 hb
  go_wp2_with fail
  refine (E0.out w9 HB9.out).mono ?_; rintro e w10 ⟨rfl, hb⟩
  have HB10 := Lib.hid (bcall HB9.out hb)
  clear HB9 hb
  go_wp2_with fail
  go_ret
  exact ⟨by first | rfl | simp, HB10.out⟩
theorem law_any (p : Option Addr) (cap n : Nat) (l : List Int) (x : Int) (w : World) (hH : Handle w) (hn : n = l.length) (hi : Ints w p cap l) : Law p cap n x w := by
  by_cases h : codeH l x = 0
  · obtain ⟨k, rfl, g⟩ := codeH_zero h
    exact law_good p cap n l k w hH hn hi g
  · by_cases hc : Ring.code l = 0
    · refine law_out p cap n l x w hH hn hi hc (fun hx => h ?_)
      unfold codeH
      rw [if_pos hc, if_pos hx]
    · exact law_bad p cap n l x w hH hn hi _ rfl hc

theorem reads : Tryd.f3.params.toList.all (fun t => Tryd.prog.readableRec t && decide (t < Tryd.prog.types.size)) = true := by kernel_rfl
theorem et : Tryd.prog.globalNamed "errors.errorType" = some 0 := by kernel_rfl
theorem rt : (Tryd.prog.cutTypes.find? (·.1 == "internal/reflectlite.rtype")).map (·.2) = some 58 := by kernel_rfl
theorem oneRow : ((List.range Tryd.prog.types.size).filter fun t => Tryd.prog.rowNamed t [101, 114, 114, 111, 114]) = [26] := by kernel_rfl

theorem handle_of_laid {W : World} (h : laidMetH Tryd.prog Rows.ringSaysRow.laid W) : Handle W := by
  have h' : laidMet Tryd.prog [] W ∧ handlesMet Tryd.prog Rows.ringSaysRow.laid W := h
  obtain ⟨name, u, ty, e1, e2, e3, e4, e5⟩ := h'.2 _ (List.mem_singleton.2 rfl)
  have en : name = [101, 114, 114, 111, 114] := (Option.some.inj e1).symm
  subst en
  obtain rfl := Option.some.inj (rt.symm.trans e2)
  have hm : ty ∈ (List.range Tryd.prog.types.size).filter fun t => Tryd.prog.rowNamed t [101, 114, 114, 111, 114] := List.mem_filter.2 ⟨List.mem_range.2 e3, e4⟩
  rw [oneRow] at hm
  obtain rfl := List.mem_singleton.1 hm
  have hh : typeHandle Tryd.prog 26 = .pointer (some ⟨1, 26, none⟩) := by kernel_rfl
  rw [hh] at e5
  have e6 := World.var?_cell et e5 0
  unfold Handle
  simpa using e6

noncomputable def laidWorld (os : Os) : World :=
  { World.holding Tryd.prog os ⟨#[], #[], []⟩ with heap := (World.holding Tryd.prog os ⟨#[], #[], []⟩).heap.modify 0 fun
      | .cells _ t frozen => .cells #[.iface 58 (.agg #[.pointer (some ⟨1, 26, none⟩)])] t frozen
      | o => o }
theorem laid_met (os : Os) : laidMetH Tryd.prog Rows.ringSaysRow.laid ((laidWorld os).forCall (fun _ _ => 0) ⟨#[], #[.slice none 0 0, .int .i64 0], []⟩).memory :=
  laidMetH_of_parts (laidMet_nil _ _) (by kernel_rfl)
theorem reads_wit (os : Os) {H : Type} (enc : TypeId × Value → H) : ∃ places, DataW.whole enc Tryd.prog ((laidWorld os).forCall (fun _ _ => 0) ⟨#[], #[.slice none 0 0, .int .i64 0], []⟩).memory Tryd.f3.params.toList Rows.ringSaysSpec.vars false (#[.slice none 0 0, .int .i64 0] : Array Value).toList 8 = some ([.nil, .lit (.int .i64 0)], [], places) :=
  ⟨[], by kernel_rfl⟩

theorem contract (H : Type) (enc : TypeId × Value → H) (W : World) (base : Nat) (args : Array Value) (ds gs : List (DataW H)) (before : List MemPlace)
    (hval : ∀ (j : Nat) t v, Tryd.f3.params[j]? = some t → args[j]? = some v → Value.okWide Tryd.prog W .any base t v)
    (hW : DataW.Whole enc Tryd.prog Tryd.f3.params.toList Rows.ringSaysSpec.vars false W args.toList ds gs before) (hL : laidMetH Tryd.prog Rows.ringSaysRow.laid W) :
    Calls Tryd.prog 3 args W fun e W' => ∃ v, e = .returned v ∧ Rows.ringSaysSpec.post enc Tryd.prog Tryd.f3 false true false false W args v W' := by
  have hW' := hW
  have hg := handle_of_laid hL
  obtain ⟨p, q, hA0, hV, rfl, hfz, hnd⟩ := hW
  have hA : DataW.TrodAll enc Tryd.prog W 0 (fun _ => true) true Tryd.f3.params.toList args.toList ds p := hA0
  have hlt := hA.lt
  rw [Tryd.params3] at hA hval
  obtain ⟨v0, vs0, d0, ds0, p0, q0, hargs, rfl, rfl, h0, r0⟩ := trodAll_cons hA
  obtain ⟨v1, vs1, d1, ds1, p1, q1, hvs1, rfl, rfl, h1, r1⟩ := trodAll_cons r0
  obtain ⟨hvsn, rfl, rfl⟩ := trodAll_nil r1
  simp only [hvsn, hvs1] at hargs
  obtain rfl : args = #[v0, v1] := by cases args; simp_all
  obtain ⟨p0a, cap0, l0, rfl, i0⟩ := open_intsl Tryd.underlying22 Tryd.underlying3 (by kernel_rfl) (hval 0 22 v0 rfl rfl) h0 (fun x hx => hlt x (by simp [hx]))
  obtain ⟨a1, rfl, rfl, rfl, w1⟩ := open_int Tryd.underlying3 (hval 1 3 v1 rfl rfl) h1
  have b1 := bounds_int w1
  obtain ⟨rfl, rfl⟩ := trodVars_none hV
  clear hA0
  exact law_post 4 laid reads rfl Tryd.underlying4 rfl hW' ⟨rfl, rfl, rfl⟩ (law_any p0a _ _ l0 a1 W hg rfl i0)

set_option maxRecDepth 100000 in
theorem lifted (os : Os) (started : os.Started) (H : Type) (enc : TypeId × Value → H) (F : Stop.Interp) :
    ReturnsInHanded {} Tryd.checked os 3 .any ((OpenSpec.ofChange Rows.ringSaysSpec).preRow enc Tryd.prog Tryd.f3 Rows.ringSaysRow.domain false Rows.ringSaysRow.laid) (((OpenSpec.ofChange Rows.ringSaysSpec).at F).post enc Tryd.prog Tryd.f3 false true false false) := by
  obtain ⟨places, hx⟩ := reads_wit os enc
  refine returnsInHanded_of_row (C := Tryd.checked) (s := (OpenSpec.ofChange Rows.ringSaysSpec)) own started (by kernel_rfl) Tryd.func3
    (witness_row_at (enc := enc) (C := Tryd.checked) false (laidWorld os) #[.slice none 0 0, .int .i64 0] rfl (by kernel_rfl) (by kernel_rfl) (by kernel_rfl)
      (OpenSpec.preRow_of_cond 8 hx (by kernel_rfl) (fun k hk => by cases hk) (by kernel_rfl) (laid_met os))) ?_
  intro W base args ds gs before hval hW _ hcond _ hL _ _
  exact contract H enc W base args ds gs before hval hW hL

theorem said : Rows.RingSaysSaid :=
  OpenClaim.holds_of_cond 3 Tryd.f3 rfl rfl rfl rfl rfl rfl rfl ⟨rfl, rfl, rfl, rfl, rfl⟩ rfl rfl rfl rfl rfl (by kernel_rfl) Tryd.func3 (by kernel_rfl)
    (of_decide_eq_true (by kernel_rfl)) (by unfold Func.isWrapper; first | (rw [if_pos (by decide +kernel)]; kernel_rfl) | (rw [if_neg (by decide +kernel)]; exact ⟨rfl, rfl⟩))
    (fun os started H enc _ F => by rw [OpenClaim.pre_eq_preRow]; exact lifted os started H enc F)

theorem plain (f : FuncId) (fn : Func) (hf : Tryd.pinned.checked.prog.funcNamed Rows.ringSaysRow.func = some f) (hfn : Tryd.pinned.checked.prog.funcs[f]? = some fn) :
    true = Tryd.pinned.checked.prog.looks [] ∧ ∀ (j : Nat) t, fn.params[j]? = some t → Tryd.pinned.checked.prog.wantsStandIn t = false := by
  obtain rfl : f = 3 := Option.some.inj ((show Tryd.prog.funcNamed Rows.ringSaysRow.func = some 3 by kernel_rfl).symm.trans hf) |>.symm
  obtain rfl : fn = Tryd.f3 := (Option.some.inj (Tryd.func3.symm.trans hfn)).symm
  refine ⟨by kernel_rfl, fun j t ht => ?_⟩
  have hall : Tryd.f3.params.toList.all (fun t => !Tryd.prog.wantsStandIn t) = true := by kernel_rfl
  have hm : t ∈ Tryd.f3.params.toList := by simpa using Array.mem_of_getElem? ht
  have := List.all_eq_true.1 hall t hm
  show Tryd.prog.wantsStandIn t = false
  simpa using this

theorem proved : Rows.RingSaysCardSaid :=
  Claim7.holds_tied_plain_at .later [] _ _ _ _ said (fun _ h => by cases h) (by kernel_rfl) (fun _ h => by cases h) ringSays_row_tie rfl ⟨rfl, rfl⟩ (by kernel_rfl) rfl plain (by kernel_rfl)
end Go.Proofs.YtckfobkkjiiheaaDoor.RingSaysL
