/- DrrSays: for all arguments, the functions of package drr return what the document specifies: for every input, the row's handle laid as the card says. -/
import Derived.Test.YtcdiejalplgclaaDoorCards
import Derived.Test.YtcdiejalplgclaaDoorTie
import Derived.Deep.DeepHandedRow
import Derived.Lib.LaidTab
import Derived.LaidHandle
import Derived.SevenTiedAt
import Derived.Test.YtcdiejalplgclaaDoorDrrRefD
import Derived.Test.YtcdiejalplgclaaDoorErrSame
import Derived.Test.YtcdiejalplgclaaDoorSame
namespace Go.Proofs.YtcdiejalplgclaaDoor.DrrSaysL
open Go.ChangeShapes Go.WideShapes Go.ChangeAt Go.RowKit Go.Proofs.YtcdiejalplgclaaDoor.Kit Go.Proofs.YtcdiejalplgclaaDoor.App Go.Proofs.YtcdiejalplgclaaDoor.Err Go.Proofs.YtcdiejalplgclaaDoor.Drr Go.Proofs.YtcdiejalplgclaaDoor.As
set_option linter.unusedVariables false
set_option maxRecDepth 20000
set_option maxHeartbeats 4000000

abbrev Law (p : Option Addr) (n cap : Nat) (Q : Int) (w : World) : Prop := Calls Tryd.prog 3 #[.slice p n cap, .int .i64 Q] w fun e w' => e = .returned (.bool true) ∧ Below w.heap.size w w'
theorem law_bad (p : Option Addr) (n cap : Nat) (ls : List (List Int)) (Q : Int) (w : World) (hH : Handle w) (hn : n = ls.length) (hi : RowsI w p cap ls) (c : Int) (hc : code ls = c) (h0 : c ≠ 0) : Law p n cap Q w := by
  have D1 := Lib.hid (rqueues_any p cap n ls w hn hi c hc)
  have P1 := Lib.hid (check_any p cap n ls w hn hi c hc)
  have E1 := Lib.hid (fun W (hb : Below w.heap.size w W) => err_same c W (hH.below hb))
  have E2 := Lib.hid (fun W (hb : Below w.heap.size w W) => err_same c W (hH.below hb))
  have RU := Lib.hid (fun W (hW : Below w.heap.size w W) => run_any p cap n ls Q W hn (hi.below hW) c (by unfold codeQ; rw [if_neg (by rw [hc]; exact h0), hc]) [] (fun h => absurd h h0) (fun _ => rfl) 0 rfl)
  have t0 : (c == 0) = false := by rw [beq_eq_false_iff_ne]; exact h0
  clear hn hi hc h0 hH
  generalize er c = V at P1 E1 RU E2
  unfold Law
  go_enter Tryd.func3, Tryd.ntmps3
  go_wp2_with fail
  refine D1.out.mono ?_; rintro e w1 ⟨rfl, hw1⟩
  subst hw1
  go_wp2_with fail
  refine P1.out.mono ?_; rintro e w2 ⟨rfl, hw2⟩
  subst hw2
  go_wp2_with fail
  refine (E1.out _ (brefl _)).mono ?_; rintro e w3 ⟨rfl, hb3⟩
  have HB3 := Lib.hid hb3
  clear D1 P1 E1 hb3
  go_wp2_with fail
  refine (RU.out w3 HB3.out).mono ?_; rintro e w4 ⟨⟨r, cr, rfl, hI⟩, hb4⟩
  have HB4 := Lib.hid (bcall HB3.out hb4)
  clear RU HB3 hb4
  go_wp2_with fail
  refine (E2.out w4 HB4.out).mono ?_; rintro e w5 ⟨rfl, hb5⟩
  have HB5 := Lib.hid (bcall HB4.out hb5)
  have SM := Lib.hid (ints_any r none cr 0 0 0 [] [] w5 rfl rfl (hI.below hb5) (Ints.nil w5) true (by decide))
  clear E2 HB4 hb5 hI
  go_wp2_with fail
  refine SM.out.mono ?_; rintro e w6 ⟨rfl, hb6⟩
  have HB6 := Lib.hid (bcall HB5.out hb6)
  go_wp2_with fail
  go_ret
  exact ⟨by first | rfl | simp, HB6.out⟩
theorem law_out (p : Option Addr) (n cap : Nat) (ls : List (List Int)) (Q : Int) (w : World) (hH : Handle w) (hn : n = ls.length) (hi : RowsI w p cap ls) (hc : code ls = 0) (h0 : ¬ (1 ≤ Q ∧ Q ≤ 20)) : Law p n cap Q w := by
  have D1 := Lib.hid (rqueues_any p cap n ls w hn hi 0 hc)
  have P1 := Lib.hid (check_any p cap n ls w hn hi 0 hc)
  have E1 := Lib.hid (fun W (hb : Below w.heap.size w W) => err_same 0 W (hH.below hb))
  have E2 := Lib.hid (fun W (hb : Below w.heap.size w W) => err_same 1 W (hH.below hb))
  have RU := Lib.hid (fun W (hW : Below w.heap.size w W) => run_any p cap n ls Q W hn (hi.below hW) 1 (by unfold codeQ; rw [if_pos hc, if_neg h0]) [] (fun h => absurd h (by decide)) (fun _ => rfl) 0 rfl)
  have IN := Lib.hid (fun W => in_any Q 1 20 W false (in_false h0))
  clear hn hi hc h0 hH
  generalize er 0 = V at P1 E1
  generalize er 1 = V1 at RU E2
  unfold Law
  go_enter Tryd.func3, Tryd.ntmps3
  go_wp2_with fail
  refine D1.out.mono ?_; rintro e w1 ⟨rfl, hw1⟩
  subst hw1
  go_wp2_with fail
  refine P1.out.mono ?_; rintro e w2 ⟨rfl, hw2⟩
  subst hw2
  go_wp2_with fail
  refine (E1.out _ (brefl _)).mono ?_; rintro e w3 ⟨rfl, hb3⟩
  have HB3 := Lib.hid hb3
  clear D1 P1 E1 hb3
  go_wp2_with fail
  refine (IN.out _).mono ?_; rintro e w9 ⟨rfl, hw9⟩
  subst hw9
  clear IN
  go_wp2_with fail
  refine (RU.out w9 HB3.out).mono ?_; rintro e w4 ⟨⟨r, cr, rfl, hI⟩, hb4⟩
  have HB4 := Lib.hid (bcall HB3.out hb4)
  clear RU HB3 hb4
  go_wp2_with fail
  refine (E2.out w4 HB4.out).mono ?_; rintro e w5 ⟨rfl, hb5⟩
  have HB5 := Lib.hid (bcall HB4.out hb5)
  have SM := Lib.hid (ints_any r none cr 0 0 0 [] [] w5 rfl rfl (hI.below hb5) (Ints.nil w5) true (by decide))
  clear E2 HB4 hb5 hI
  go_wp2_with fail
  refine SM.out.mono ?_; rintro e w6 ⟨rfl, hb6⟩
  have HB6 := Lib.hid (bcall HB5.out hb6)
  go_wp2_with fail
  go_ret
  exact ⟨by first | rfl | simp, HB6.out⟩
theorem law_good (p : Option Addr) (n cap : Nat) (ls : List (List Int)) (Q : Int) (w : World) (hH : Handle w) (hn : n = ls.length) (hi : RowsI w p cap ls) (hc : code ls = 0) (hQ : 1 ≤ Q ∧ Q ≤ 20) : Law p n cap Q w := by
  have D1 := Lib.hid (rqueues_any p cap n ls w hn hi 0 hc)
  have P1 := Lib.hid (check_any p cap n ls w hn hi 0 hc)
  have E1 := Lib.hid (fun W (hb : Below w.heap.size w W) => err_same 0 W (hH.below hb))
  have E2 := Lib.hid (fun W (hb : Below w.heap.size w W) => err_same 0 W (hH.below hb))
  have hg := code_zero.1 hc
  obtain ⟨N, L, hL⟩ := runs_of hg hQ.1
  obtain ⟨k, hk⟩ : ∃ k, L.length = k := ⟨_, rfl⟩
  have RU := Lib.hid (fun W (hW : Below w.heap.size w W) => run_any p cap n ls Q W hn (hi.below hW) 0 (by unfold codeQ; rw [if_pos hc, if_pos hQ]) L (fun _ => ⟨N, hL⟩) (fun h => absurd rfl h) k hk)
  have RD := Lib.hid (fun W (hW : Below w.heap.size w W) => rdrr_good p cap n ls Q W hn (hi.below hW) hg hQ N L hL)
  have IN := Lib.hid (fun W => in_any Q 1 20 W true (in_true hQ))
  have HK := Lib.hid hk
  clear hn hi hc hQ hH hL hg hk
  generalize er 0 = V at P1 E1 RU E2
  unfold Law
  go_enter Tryd.func3, Tryd.ntmps3
  go_wp2_with fail
  refine D1.out.mono ?_; rintro e w1 ⟨rfl, hw1⟩
  subst hw1
  go_wp2_with fail
  refine P1.out.mono ?_; rintro e w2 ⟨rfl, hw2⟩
  subst hw2
  go_wp2_with fail
  refine (E1.out _ (brefl _)).mono ?_; rintro e w3 ⟨rfl, hb3⟩
  have HB3 := Lib.hid hb3
  clear D1 P1 E1 hb3
  go_wp2_with fail
  refine (IN.out _).mono ?_; rintro e w9 ⟨rfl, hw9⟩
  subst hw9
  clear IN
  go_wp2_with fail
  refine (RD.out w9 HB3.out).mono ?_; rintro e w8 ⟨o, rfl, ho, hb8⟩
  obtain ⟨po, co, ho2, hio⟩ := ho.form
  rw [HK.out] at ho2
  subst ho2
  have HIO := Lib.hid hio
  have HB8 := Lib.hid (bcall HB3.out hb8)
  clear RD ho hio hb8 HB3
  go_wp2_with fail
  refine (RU.out w8 HB8.out).mono ?_; rintro e w4 ⟨⟨r, cr, rfl, hI⟩, hb4⟩
  have HB4 := Lib.hid (bcall HB8.out hb4)
  have HIO4 := Lib.hid (HIO.out.below hb4)
  clear RU HB8 hb4 HIO
  go_wp2_with fail
  refine (E2.out w4 HB4.out).mono ?_; rintro e w5 ⟨rfl, hb5⟩
  have HB5 := Lib.hid (bcall HB4.out hb5)
  have SM := Lib.hid (ints_any r po cr co k k L L w5 HK.out.symm HK.out.symm (hI.below hb5) (HIO4.out.below hb5) true (by simp))
  clear E2 HB4 hb5 hI HIO4
  go_wp2_with fail
  refine SM.out.mono ?_; rintro e w6 ⟨rfl, hb6⟩
  have HB6 := Lib.hid (bcall HB5.out hb6)
  go_wp2_with fail
  go_ret
  exact ⟨by first | rfl | simp, HB6.out⟩

theorem reads : Tryd.f3.params.toList.all (fun t => Tryd.prog.readableRec t && decide (t < Tryd.prog.types.size)) = true := by kernel_rfl
theorem et : Tryd.prog.globalNamed "errors.errorType" = some 0 := by kernel_rfl
theorem rt : (Tryd.prog.cutTypes.find? (·.1 == "internal/reflectlite.rtype")).map (·.2) = some 73 := by kernel_rfl
theorem oneRow : ((List.range Tryd.prog.types.size).filter fun t => Tryd.prog.rowNamed t [101, 114, 114, 111, 114]) = [26] := by kernel_rfl

theorem handle_of_laid {W : World} (h : laidMetH Tryd.prog Rows.drrSaysRow.laid W) : Handle W := by
  have h' : laidMet Tryd.prog [] W ∧ handlesMet Tryd.prog Rows.drrSaysRow.laid W := h
  obtain ⟨name, u, ty, e1, e2, e3, e4, e5⟩ := h'.2 _ (List.mem_singleton.2 rfl)
  have en : name = [101, 114, 114, 111, 114] := (Option.some.inj e1).symm
  subst en
  obtain rfl := Option.some.inj (rt.symm.trans e2)
  have hm : ty ∈ (List.range Tryd.prog.types.size).filter fun t => Tryd.prog.rowNamed t [101, 114, 114, 111, 114] := List.mem_filter.2 ⟨List.mem_range.2 e3, e4⟩
  rw [oneRow] at hm
  obtain rfl := List.mem_singleton.1 hm
  have hh : typeHandle Tryd.prog 26 = .pointer (some ⟨1, 26, none⟩) := by kernel_rfl
  rw [hh] at e5
  have e6 := World.var?_cell et e5 0
  unfold Handle
  simpa using e6

noncomputable def laidWorld (os : Os) : World :=
  { World.holding Tryd.prog os ⟨#[], #[], []⟩ with heap := (World.holding Tryd.prog os ⟨#[], #[], []⟩).heap.modify 0 fun
      | .cells _ t frozen => .cells #[.iface 73 (.agg #[.pointer (some ⟨1, 26, none⟩)])] t frozen
      | o => o }
theorem laid_met (os : Os) : laidMetH Tryd.prog Rows.drrSaysRow.laid ((laidWorld os).forCall (fun _ _ => 0) ⟨#[], #[.slice none 0 0, .int .i64 0], []⟩).memory :=
  laidMetH_of_parts (laidMet_nil _ _) (by kernel_rfl)
theorem reads_wit (os : Os) {H : Type} (enc : TypeId × Value → H) : ∃ places, DataW.whole enc Tryd.prog ((laidWorld os).forCall (fun _ _ => 0) ⟨#[], #[.slice none 0 0, .int .i64 0], []⟩).memory Tryd.f3.params.toList Rows.drrSaysSpec.vars false (#[.slice none 0 0, .int .i64 0] : Array Value).toList 8 = some ([.nil, .lit (.int .i64 0)], [], places) :=
  ⟨[], by kernel_rfl⟩

theorem contract (H : Type) (enc : TypeId × Value → H) (W : World) (base : Nat) (args : Array Value) (ds gs : List (DataW H)) (before : List MemPlace)
    (hval : ∀ (j : Nat) t v, Tryd.f3.params[j]? = some t → args[j]? = some v → Value.okWide Tryd.prog W .any base t v)
    (hW : DataW.Whole enc Tryd.prog Tryd.f3.params.toList Rows.drrSaysSpec.vars false W args.toList ds gs before) (hL : laidMetH Tryd.prog Rows.drrSaysRow.laid W) :
    Calls Tryd.prog 3 args W fun e W' => ∃ v, e = .returned v ∧ Rows.drrSaysSpec.post enc Tryd.prog Tryd.f3 false true false false W args v W' := by
  have hW' := hW
  have hg := handle_of_laid hL
  obtain ⟨p, q, hA0, hV, rfl, hfz, hnd⟩ := hW
  have hA : DataW.TrodAll enc Tryd.prog W 0 (fun _ => true) true Tryd.f3.params.toList args.toList ds p := hA0
  have hlt := hA.lt
  rw [Tryd.params3] at hA hval
  obtain ⟨v0, vs0, d0, ds0, p0, q0, hargs, rfl, rfl, h0, r0⟩ := trodAll_cons hA
  obtain ⟨v1, vs1, d1, ds1, p1, q1, hvs1, rfl, rfl, h1, r1⟩ := trodAll_cons r0
  obtain ⟨hvsn, rfl, rfl⟩ := trodAll_nil r1
  simp only [hvsn, hvs1] at hargs
  obtain rfl : args = #[v0, v1] := by cases args; simp_all
  obtain ⟨p0a, cap0, l0, rfl, i0, e0⟩ := open_rows Tryd.underlying22 Tryd.underlying29 Tryd.underlying3 (by kernel_rfl) (by kernel_rfl) (hval 0 22 v0 rfl rfl) h0 (fun x hx => hlt x (by simp [hx]))
  obtain ⟨a1, rfl, rfl, rfl, w1⟩ := open_int Tryd.underlying3 (hval 1 3 v1 rfl rfl) h1
  have b1 := bounds_int w1
  obtain ⟨rfl, rfl⟩ := trodVars_none hV
  clear hA0
  exact law_post 4 laid reads rfl Tryd.underlying4 rfl hW' ⟨rfl, rfl, rfl⟩ (by
    by_cases h : code l0 = 0
    · by_cases hQ : 1 ≤ a1 ∧ a1 ≤ 20
      · exact law_good _ _ _ l0 a1 W hg rfl i0 h hQ
      · exact law_out _ _ _ l0 a1 W hg rfl i0 h hQ
    · exact law_bad _ _ _ l0 a1 W hg rfl i0 _ rfl h)

set_option maxRecDepth 100000 in
theorem lifted (os : Os) (started : os.Started) (H : Type) (enc : TypeId × Value → H) (F : Stop.Interp) :
    ReturnsInHanded {} Tryd.checked os 3 .any ((OpenSpec.ofChange Rows.drrSaysSpec).preRow enc Tryd.prog Tryd.f3 Rows.drrSaysRow.domain false Rows.drrSaysRow.laid) (((OpenSpec.ofChange Rows.drrSaysSpec).at F).post enc Tryd.prog Tryd.f3 false true false false) := by
  obtain ⟨places, hx⟩ := reads_wit os enc
  refine returnsInHanded_of_row (C := Tryd.checked) (s := (OpenSpec.ofChange Rows.drrSaysSpec)) own started (by kernel_rfl) Tryd.func3
    (witness_row_at (enc := enc) (C := Tryd.checked) false (laidWorld os) #[.slice none 0 0, .int .i64 0] rfl (by kernel_rfl) (by kernel_rfl) (by kernel_rfl)
      (OpenSpec.preRow_of_cond 8 hx (by kernel_rfl) (fun k hk => by cases hk) (by kernel_rfl) (laid_met os))) ?_
  intro W base args ds gs before hval hW _ hcond _ hL _ _
  exact contract H enc W base args ds gs before hval hW hL

theorem said : Rows.DrrSaysSaid :=
  OpenClaim.holds_of_cond 3 Tryd.f3 rfl rfl rfl rfl rfl rfl rfl ⟨rfl, rfl, rfl, rfl, rfl⟩ rfl rfl rfl rfl rfl (by kernel_rfl) Tryd.func3 (by kernel_rfl)
    (of_decide_eq_true (by kernel_rfl)) (by unfold Func.isWrapper; first | (rw [if_pos (by decide +kernel)]; kernel_rfl) | (rw [if_neg (by decide +kernel)]; exact ⟨rfl, rfl⟩))
    (fun os started H enc _ F => by rw [OpenClaim.pre_eq_preRow]; exact lifted os started H enc F)

theorem plain (f : FuncId) (fn : Func) (hf : Tryd.pinned.checked.prog.funcNamed Rows.drrSaysRow.func = some f) (hfn : Tryd.pinned.checked.prog.funcs[f]? = some fn) :
    true = Tryd.pinned.checked.prog.looks [] ∧ ∀ (j : Nat) t, fn.params[j]? = some t → Tryd.pinned.checked.prog.wantsStandIn t = false := by
  obtain rfl : f = 3 := Option.some.inj ((show Tryd.prog.funcNamed Rows.drrSaysRow.func = some 3 by kernel_rfl).symm.trans hf) |>.symm
  obtain rfl : fn = Tryd.f3 := (Option.some.inj (Tryd.func3.symm.trans hfn)).symm
  refine ⟨by kernel_rfl, fun j t ht => ?_⟩
  have hall : Tryd.f3.params.toList.all (fun t => !Tryd.prog.wantsStandIn t) = true := by kernel_rfl
  have hm : t ∈ Tryd.f3.params.toList := by simpa using Array.mem_of_getElem? ht
  have := List.all_eq_true.1 hall t hm
  show Tryd.prog.wantsStandIn t = false
  simpa using this

theorem proved : Rows.DrrSaysCardSaid :=
  Claim7.holds_tied_plain_at .later [] _ _ _ _ said (fun _ h => by cases h) (by kernel_rfl) (fun _ h => by cases h) drrSays_row_tie rfl ⟨rfl, rfl⟩ (by kernel_rfl) rfl plain (by kernel_rfl)
end Go.Proofs.YtcdiejalplgclaaDoor.DrrSaysL
