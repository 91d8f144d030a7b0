/- MaxminSays: for all arguments, the functions of package maxmin return what the document specifies: for every input, the row's handle laid as the card says. -/
import Derived.Test.YtggnpecmldnmnaaDoorCards
import Derived.Test.YtggnpecmldnmnaaDoorTie
import Derived.Deep.DeepHandedRow
import Derived.Lib.LaidTab
import Derived.LaidHandle
import Derived.SevenTiedAt
import Derived.Test.YtggnpecmldnmnaaDoorMaxRef
import Derived.Test.YtggnpecmldnmnaaDoorMax3
import Derived.Test.YtggnpecmldnmnaaDoorErrSame
import Derived.Test.YtggnpecmldnmnaaDoorSame
namespace Go.Proofs.YtggnpecmldnmnaaDoor.MaxminSaysL
open Go.ChangeShapes Go.WideShapes Go.ChangeAt Go.RowKit Go.Proofs.YtggnpecmldnmnaaDoor.Kit Go.Proofs.YtggnpecmldnmnaaDoor.App Go.Proofs.YtggnpecmldnmnaaDoor.Err Go.Proofs.YtggnpecmldnmnaaDoor.Drr Go.Proofs.YtggnpecmldnmnaaDoor.Maxmin Go.Proofs.YtggnpecmldnmnaaDoor.As
set_option linter.unusedVariables false
set_option maxRecDepth 20000
set_option maxHeartbeats 4000000

abbrev Law (p1 : Option Addr) (n1 cap1 : Nat) (p : Option Addr) (n cap : Nat) (w : World) : Prop := Calls Tryd.prog 3 #[.slice p1 n1 cap1, .slice p n cap] w fun e w' => e = .returned (.bool true) ∧ Below w.heap.size w w'
theorem law_bad (p1 : Option Addr) (n1 cap1 : Nat) (room : List Int) (p : Option Addr) (n cap : Nat) (ws : List (List Int)) (w : World) (hH : Handle w) (hn1 : n1 = room.length) (hi1 : Ints w p1 cap1 room) (hn : n = ws.length) (hi : RowsI w p cap ws) (c : Int) (hc : code room ws = c) (h0 : c ≠ 0) : Law p1 n1 cap1 p n cap w := by
  have D1 := Lib.hid (ways_any p1 cap1 n1 room p cap n ws w hn1 hi1 hn hi c hc)
  have P1 := Lib.hid (fun W (hW : Below w.heap.size w W) => check_any p1 cap1 n1 room p cap n ws W hn1 (hi1.below hW) hn (hi.below hW) c hc)
  have E1 := Lib.hid (fun W (hb : Below w.heap.size w W) => err_same c W (hH.below hb))
  have RU := Lib.hid (fun W (hW : Below w.heap.size w W) => share_bad p1 cap1 n1 room p cap n ws W hn1 (hi1.below hW) hn (hi.below hW) c hc h0)
  have t0 : (c == 0) = false := by rw [beq_eq_false_iff_ne]; exact h0
  clear hn1 hi1 hn hi hc h0 hH
  generalize er c = V at P1 E1 RU
  unfold Law
  go_enter Tryd.func3, Tryd.ntmps3
  go_wp2_with fail
  refine D1.out.mono ?_; rintro e w1 ⟨rfl, hw1⟩
  have HB1 : Hid (Below w.heap.size w w1) := Lib.hid (by obtain ⟨m, rfl⟩ := hw1; exact bdrewN (brefl w) m)
  clear hw1 D1
  go_wp2_with fail
  refine (P1.out w1 HB1.out).mono ?_; rintro e w2 ⟨rfl, hb2⟩
  have HB2 := Lib.hid (bcall HB1.out hb2)
  clear hb2 P1
  go_wp2_with fail
  refine (E1.out w2 HB2.out).mono ?_; rintro e w3 ⟨rfl, hb3⟩
  have HB3 := Lib.hid (bcall HB2.out hb3)
  clear hb3
  go_wp2_with fail
  refine (RU.out w3 HB3.out).mono ?_; rintro e w4 ⟨rfl, hb4⟩
  have HB4 := Lib.hid (bcall HB3.out hb4)
  clear RU HB3 hb4
  go_wp2_with fail
  refine (E1.out w4 HB4.out).mono ?_; rintro e w5 ⟨rfl, hb5⟩
  have HB5 := Lib.hid (bcall HB4.out hb5)
  have SM := Lib.hid (ints_any none none 0 0 0 0 [] [] w5 rfl rfl (Ints.nil w5) (Ints.nil w5) true (by decide))
  clear E1 HB4 hb5
  go_wp2_with fail
  refine SM.out.mono ?_; rintro e w6 ⟨rfl, hb6⟩
  have HB6 := Lib.hid (bcall HB5.out hb6)
  go_wp2_with fail
  go_ret
  exact ⟨by first | rfl | simp, HB6.out⟩
theorem law_good (p1 : Option Addr) (n1 cap1 : Nat) (room : List Int) (p : Option Addr) (n cap : Nat) (ws : List (List Int)) (w : World) (hH : Handle w) (hn1 : n1 = room.length) (hi1 : Ints w p1 cap1 room) (hn : n = ws.length) (hi : RowsI w p cap ws) (hc : code room ws = 0) : Law p1 n1 cap1 p n cap w := by
  have D1 := Lib.hid (ways_any p1 cap1 n1 room p cap n ws w hn1 hi1 hn hi 0 hc)
  have P1 := Lib.hid (fun W (hW : Below w.heap.size w W) => check_any p1 cap1 n1 room p cap n ws W hn1 (hi1.below hW) hn (hi.below hW) 0 hc)
  have E1 := Lib.hid (fun W (hb : Below w.heap.size w W) => err_same 0 W (hH.below hb))
  have hg := code_zero.1 hc
  obtain ⟨N, r, hr⟩ := runs_exist hg
  have RU := Lib.hid (fun W (hW : Below w.heap.size w W) => share_good p1 cap1 n1 room p cap n ws W hn1 (hi1.below hW) hn (hi.below hW) hg N r hr)
  have RD := Lib.hid (fun W (hW : Below w.heap.size w W) => rshare_good p1 cap1 n1 room p cap n ws W hn1 (hi1.below hW) hn (hi.below hW) hg N r hr)
  clear hn1 hi1 hn hi hc hH hg hr
  have VV : er 0 = .nilIface := er_0
  have HLEN := Lib.hid (lt_len n fun y => r y.toNat)
  generalize (lt n fun y => r y.toNat) = L at RU RD HLEN
  rw [VV] at P1 E1
  clear VV
  unfold Law
  go_enter Tryd.func3, Tryd.ntmps3
  go_wp2_with fail
  refine D1.out.mono ?_; rintro e w1 ⟨rfl, hw1⟩
  have HB1 : Hid (Below w.heap.size w w1) := Lib.hid (by obtain ⟨m, rfl⟩ := hw1; exact bdrewN (brefl w) m)
  clear hw1 D1
  go_wp2_with fail
  refine (P1.out w1 HB1.out).mono ?_; rintro e w2 ⟨rfl, hb2⟩
  have HB2 := Lib.hid (bcall HB1.out hb2)
  clear hb2 P1
  go_wp2_with fail
  refine (E1.out w2 HB2.out).mono ?_; rintro e w3 ⟨rfl, hb3⟩
  have HB3 := Lib.hid (bcall HB2.out hb3)
  clear hb3
  go_wp2_with fail
  refine (RD.out w3 HB3.out).mono ?_; rintro e w8 ⟨q8, rfl, ho8, hb8⟩
  have HB8 := Lib.hid (bcall HB3.out hb8)
  have HO8 := Lib.hid ho8
  clear RD ho8 hb8 HB3
  go_wp2_with fail
  refine (RU.out w8 HB8.out).mono ?_; rintro e w4 ⟨q4, rfl, ho4, hb4⟩
  have HB4 := Lib.hid (bcall HB8.out hb4)
  have HO84 := Lib.hid (HO8.out.below hb4)
  have HO4 := Lib.hid ho4
  clear RU HB8 hb4 HO8 ho4
  go_wp2_with fail
  refine (E1.out w4 HB4.out).mono ?_; rintro e w5 ⟨rfl, hb5⟩
  have HB5 := Lib.hid (bcall HB4.out hb5)
  obtain ⟨_, _, e1, i1⟩ := (HO4.out.below hb5).form
  injection e1 with e1 e2 e3
  subst e1; subst e3
  obtain ⟨_, _, e1, i2⟩ := (HO84.out.below hb5).form
  injection e1 with e1 e4 e3
  subst e1; subst e3
  have SM := Lib.hid (ints_any q4 q8 n n n n L L w5 HLEN.out.symm HLEN.out.symm i1 i2 true (by simp))
  clear E1 HB4 hb5 HO4 HO84 i1 i2 e2 e4
  go_wp2_with fail
  refine SM.out.mono ?_; rintro e w6 ⟨rfl, hb6⟩
  have HB6 := Lib.hid (bcall HB5.out hb6)
  go_wp2_with fail
  go_ret
  exact ⟨by first | rfl | simp, HB6.out⟩

theorem reads : Tryd.f3.params.toList.all (fun t => Tryd.prog.readableRec t && decide (t < Tryd.prog.types.size)) = true := by kernel_rfl
theorem et : Tryd.prog.globalNamed "errors.errorType" = some 0 := by kernel_rfl
theorem rt : (Tryd.prog.cutTypes.find? (·.1 == "internal/reflectlite.rtype")).map (·.2) = some 67 := by kernel_rfl
theorem oneRow : ((List.range Tryd.prog.types.size).filter fun t => Tryd.prog.rowNamed t [101, 114, 114, 111, 114]) = [27] := by kernel_rfl

theorem handle_of_laid {W : World} (h : laidMetH Tryd.prog Rows.maxminSaysRow.laid W) : Handle W := by
  have h' : laidMet Tryd.prog [] W ∧ handlesMet Tryd.prog Rows.maxminSaysRow.laid W := h
  obtain ⟨name, u, ty, e1, e2, e3, e4, e5⟩ := h'.2 _ (List.mem_singleton.2 rfl)
  have en : name = [101, 114, 114, 111, 114] := (Option.some.inj e1).symm
  subst en
  obtain rfl := Option.some.inj (rt.symm.trans e2)
  have hm : ty ∈ (List.range Tryd.prog.types.size).filter fun t => Tryd.prog.rowNamed t [101, 114, 114, 111, 114] := List.mem_filter.2 ⟨List.mem_range.2 e3, e4⟩
  rw [oneRow] at hm
  obtain rfl := List.mem_singleton.1 hm
  have hh : typeHandle Tryd.prog 27 = .pointer (some ⟨1, 27, none⟩) := by kernel_rfl
  rw [hh] at e5
  have e6 := World.var?_cell et e5 0
  unfold Handle
  simpa using e6

noncomputable def laidWorld (os : Os) : World :=
  { World.holding Tryd.prog os ⟨#[], #[], []⟩ with heap := (World.holding Tryd.prog os ⟨#[], #[], []⟩).heap.modify 0 fun
      | .cells _ t frozen => .cells #[.iface 67 (.agg #[.pointer (some ⟨1, 27, none⟩)])] t frozen
      | o => o }
theorem laid_met (os : Os) : laidMetH Tryd.prog Rows.maxminSaysRow.laid ((laidWorld os).forCall (fun _ _ => 0) ⟨#[], #[.slice none 0 0, .slice none 0 0], []⟩).memory :=
  laidMetH_of_parts (laidMet_nil _ _) (by kernel_rfl)
theorem reads_wit (os : Os) {H : Type} (enc : TypeId × Value → H) : ∃ places, DataW.whole enc Tryd.prog ((laidWorld os).forCall (fun _ _ => 0) ⟨#[], #[.slice none 0 0, .slice none 0 0], []⟩).memory Tryd.f3.params.toList Rows.maxminSaysSpec.vars false (#[.slice none 0 0, .slice none 0 0] : Array Value).toList 8 = some ([.nil, .nil], [], places) :=
  ⟨[], by kernel_rfl⟩

theorem contract (H : Type) (enc : TypeId × Value → H) (W : World) (base : Nat) (args : Array Value) (ds gs : List (DataW H)) (before : List MemPlace)
    (hval : ∀ (j : Nat) t v, Tryd.f3.params[j]? = some t → args[j]? = some v → Value.okWide Tryd.prog W .any base t v)
    (hW : DataW.Whole enc Tryd.prog Tryd.f3.params.toList Rows.maxminSaysSpec.vars false W args.toList ds gs before) (hL : laidMetH Tryd.prog Rows.maxminSaysRow.laid W) :
    Calls Tryd.prog 3 args W fun e W' => ∃ v, e = .returned v ∧ Rows.maxminSaysSpec.post enc Tryd.prog Tryd.f3 false true false false W args v W' := by
  have hW' := hW
  have hg := handle_of_laid hL
  obtain ⟨p, q, hA0, hV, rfl, hfz, hnd⟩ := hW
  have hA : DataW.TrodAll enc Tryd.prog W 0 (fun _ => true) true Tryd.f3.params.toList args.toList ds p := hA0
  have hlt := hA.lt
  rw [Tryd.params3] at hA hval
  obtain ⟨v0, vs0, d0, ds0, p0, q0, hargs, rfl, rfl, h0, r0⟩ := trodAll_cons hA
  obtain ⟨v1, vs1, d1, ds1, p1, q1, hvs1, rfl, rfl, h1, r1⟩ := trodAll_cons r0
  obtain ⟨hvsn, rfl, rfl⟩ := trodAll_nil r1
  simp only [hvsn, hvs1] at hargs
  obtain rfl : args = #[v0, v1] := by cases args; simp_all
  obtain ⟨p0a, cap0, l0, rfl, i0⟩ := open_intsl Tryd.underlying22 Tryd.underlying3 (by kernel_rfl) (hval 0 22 v0 rfl rfl) h0 (fun x hx => hlt x (by simp [hx]))
  obtain ⟨p1a, cap1, l1, rfl, i1, e1⟩ := open_rows Tryd.underlying23 Tryd.underlying22 Tryd.underlying3 (by kernel_rfl) (by kernel_rfl) (hval 1 23 v1 rfl rfl) h1 (fun x hx => hlt x (by simp [hx]))
  obtain ⟨rfl, rfl⟩ := trodVars_none hV
  clear hA0
  exact law_post 4 laid reads rfl Tryd.underlying4 rfl hW' ⟨rfl, rfl, rfl⟩ (by
    by_cases h : code l0 l1 = 0
    · exact law_good _ _ _ l0 _ _ _ l1 W hg rfl i0 rfl i1 h
    · exact law_bad _ _ _ l0 _ _ _ l1 W hg rfl i0 rfl i1 _ rfl h)

set_option maxRecDepth 100000 in
theorem lifted (os : Os) (started : os.Started) (H : Type) (enc : TypeId × Value → H) (F : Stop.Interp) :
    ReturnsInHanded {} Tryd.checked os 3 .any ((OpenSpec.ofChange Rows.maxminSaysSpec).preRow enc Tryd.prog Tryd.f3 Rows.maxminSaysRow.domain false Rows.maxminSaysRow.laid) (((OpenSpec.ofChange Rows.maxminSaysSpec).at F).post enc Tryd.prog Tryd.f3 false true false false) := by
  obtain ⟨places, hx⟩ := reads_wit os enc
  refine returnsInHanded_of_row (C := Tryd.checked) (s := (OpenSpec.ofChange Rows.maxminSaysSpec)) own started (by kernel_rfl) Tryd.func3
    (witness_row_at (enc := enc) (C := Tryd.checked) false (laidWorld os) #[.slice none 0 0, .slice none 0 0] rfl (by kernel_rfl) (by kernel_rfl) (by kernel_rfl)
      (OpenSpec.preRow_of_cond 8 hx (by kernel_rfl) (fun k hk => by cases hk) (by kernel_rfl) (laid_met os))) ?_
  intro W base args ds gs before hval hW _ hcond _ hL _ _
  exact contract H enc W base args ds gs before hval hW hL

theorem said : Rows.MaxminSaysSaid :=
  OpenClaim.holds_of_cond 3 Tryd.f3 rfl rfl rfl rfl rfl rfl rfl ⟨rfl, rfl, rfl, rfl, rfl⟩ rfl rfl rfl rfl rfl (by kernel_rfl) Tryd.func3 (by kernel_rfl)
    (of_decide_eq_true (by kernel_rfl)) (by unfold Func.isWrapper; first | (rw [if_pos (by decide +kernel)]; kernel_rfl) | (rw [if_neg (by decide +kernel)]; exact ⟨rfl, rfl⟩))
    (fun os started H enc _ F => by rw [OpenClaim.pre_eq_preRow]; exact lifted os started H enc F)

theorem plain (f : FuncId) (fn : Func) (hf : Tryd.pinned.checked.prog.funcNamed Rows.maxminSaysRow.func = some f) (hfn : Tryd.pinned.checked.prog.funcs[f]? = some fn) :
    true = Tryd.pinned.checked.prog.looks [] ∧ ∀ (j : Nat) t, fn.params[j]? = some t → Tryd.pinned.checked.prog.wantsStandIn t = false := by
  obtain rfl : f = 3 := Option.some.inj ((show Tryd.prog.funcNamed Rows.maxminSaysRow.func = some 3 by kernel_rfl).symm.trans hf) |>.symm
  obtain rfl : fn = Tryd.f3 := (Option.some.inj (Tryd.func3.symm.trans hfn)).symm
  refine ⟨by kernel_rfl, fun j t ht => ?_⟩
  have hall : Tryd.f3.params.toList.all (fun t => !Tryd.prog.wantsStandIn t) = true := by kernel_rfl
  have hm : t ∈ Tryd.f3.params.toList := by simpa using Array.mem_of_getElem? ht
  have := List.all_eq_true.1 hall t hm
  show Tryd.prog.wantsStandIn t = false
  simpa using this

theorem proved : Rows.MaxminSaysCardSaid :=
  Claim7.holds_tied_plain_at .later [] _ _ _ _ said (fun _ h => by cases h) (by kernel_rfl) (fun _ h => by cases h) maxminSays_row_tie rfl ⟨rfl, rfl⟩ (by kernel_rfl) rfl plain (by kernel_rfl)
end Go.Proofs.YtggnpecmldnmnaaDoor.MaxminSaysL
