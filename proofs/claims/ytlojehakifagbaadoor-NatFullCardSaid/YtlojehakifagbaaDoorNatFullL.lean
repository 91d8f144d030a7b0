/- NatFull: all ports can be lent, and no more; one that is dropped is lent to the next one: for every input, the row's handle laid as the card says. -/
import Derived.Test.YtlojehakifagbaaDoorCards
import Derived.Test.YtlojehakifagbaaDoorTie
import Derived.Deep.DeepHandedRow
import Derived.Lib.LaidTab
import Derived.LaidHandle
import Derived.SevenTiedAt
import Derived.Test.YtlojehakifagbaaDoorNatFact
import Derived.Test.YtlojehakifagbaaDoorNatMore
import Derived.Test.YtlojehakifagbaaDoorNatLent
import Derived.BigQuiet
import Derived.Deep.RegionHeld3
import Derived.Deep.RegionWith
import Derived.OrdersHeld
namespace Go.Proofs.YtlojehakifagbaaDoor.NatFullL
open Go.ChangeShapes Go.WideShapes Go.ChangeAt Go.RowKit Go.Proofs.YtlojehakifagbaaDoor.Kit Go.Proofs.YtlojehakifagbaaDoor.App Go.Proofs.YtlojehakifagbaaDoor.Cells Go.Proofs.YtlojehakifagbaaDoor.Err Go.Proofs.YtlojehakifagbaaDoor.MapG Go.Proofs.YtlojehakifagbaaDoor.As Go.Proofs.YtlojehakifagbaaDoor.Nat_
set_option linter.unusedVariables false
set_option maxRecDepth 20000
set_option maxHeartbeats 4000000
abbrev Law (low many d : Int) (w : World) : Prop := Calls Tryd.prog 5 #[.int .i64 low, .int .i64 many, .int .i64 d] w fun e w' => e = .returned (.bool true) ∧ Below w.heap.size w w'
theorem law_bad (d : Int) (low many : Int) (w : World) (hg : Handle w) (h : ¬ okN low many) (hb : -9223372036854775808 ≤ many ∧ many ≤ 9223372036854775807) : Law low many d w := by
  have NB := Lib.hid (fun W => new_bad low many W h)
  rw [er_1] at NB
  by_cases h1 : num low
  · have I1 := Lib.hid (fun W => Ring.in_any low 0 65535 W true (in_true h1))
    by_cases h2 : 1 ≤ many ∧ many ≤ 30
    · have I2 := Lib.hid (fun W => Ring.in_any many 1 30 W true (in_true h2))
      have u1 : IntKind.i64.wrap (65536 - many) = 65536 - many := wrap_in (by omega)
      have u2 : decide (low > 65536 - many) = true := decide_eq_true (by have h3 : ¬ low ≤ 65536 - many := fun h3 => h ⟨h1, h2.1, h2.2, h3⟩; omega)
      have u3 : decide (65536 - many < low) = true := u2
      clear h h1 h2
      have FA := Lib.hid (fun W (hW : Below w.heap.size w W) => fact_any W (hg.below hW))
      have HB0 := Lib.hid (brefl w)
      unfold Law
      go_enter Tryd.func5, Tryd.ntmps5
      go_wp2_with fail
      refine (FA.out _ HB0.out).mono ?_; rintro e w1 ⟨rfl, hb1⟩
      have HB1 := Lib.hid (bcall HB0.out hb1)
      clear FA hb1 HB0
      go_wp2_with fail
      refine (NB.out _).mono ?_; rintro e w2 ⟨rfl, rfl⟩
      go_wp2_with fail
      refine (I1.out _).mono ?_; rintro e w3 ⟨rfl, rfl⟩
      go_wp2_with fail
      refine (I2.out _).mono ?_; rintro e w3 ⟨rfl, rfl⟩
      go_wp2_with fail
      go_ret
      exact ⟨by first | rfl | simp, HB1.out⟩
    · have I2 := Lib.hid (fun W => Ring.in_any many 1 30 W false (in_false h2))
      clear h h1 h2
      have FA := Lib.hid (fun W (hW : Below w.heap.size w W) => fact_any W (hg.below hW))
      have HB0 := Lib.hid (brefl w)
      unfold Law
      go_enter Tryd.func5, Tryd.ntmps5
      go_wp2_with fail
      refine (FA.out _ HB0.out).mono ?_; rintro e w1 ⟨rfl, hb1⟩
      have HB1 := Lib.hid (bcall HB0.out hb1)
      clear FA hb1 HB0
      go_wp2_with fail
      refine (NB.out _).mono ?_; rintro e w2 ⟨rfl, rfl⟩
      go_wp2_with fail
      refine (I1.out _).mono ?_; rintro e w3 ⟨rfl, rfl⟩
      go_wp2_with fail
      refine (I2.out _).mono ?_; rintro e w3 ⟨rfl, rfl⟩
      go_wp2_with fail
      go_ret
      exact ⟨by first | rfl | simp, HB1.out⟩
  · have I1 := Lib.hid (fun W => Ring.in_any low 0 65535 W false (in_false h1))
    clear h h1
    have FA := Lib.hid (fun W (hW : Below w.heap.size w W) => fact_any W (hg.below hW))
    have HB0 := Lib.hid (brefl w)
    unfold Law
    go_enter Tryd.func5, Tryd.ntmps5
    go_wp2_with fail
    refine (FA.out _ HB0.out).mono ?_; rintro e w1 ⟨rfl, hb1⟩
    have HB1 := Lib.hid (bcall HB0.out hb1)
    clear FA hb1 HB0
    go_wp2_with fail
    refine (NB.out _).mono ?_; rintro e w2 ⟨rfl, rfl⟩
    go_wp2_with (go_at_call 9; refine (I1.out _).mono ?_; rintro e w3 ⟨rfl, rfl⟩)
    go_ret
    exact ⟨rfl, HB1.out⟩

theorem law_good (low many : Nat) (d : Int) (w : World) (hg : Handle w) (hm1 : 1 ≤ many) (hm2 : many ≤ 30) (hm3 : low + many ≤ 65536) (hd : (Lit.int .i64 d).wf = true) (hdb : -9223372036854775808 ≤ d ∧ d ≤ 9223372036854775807) : Law low many d w := by
  have ER4 := Lib.hid (fun W (hW : Below w.heap.size w W) => err_same 4 W (hg.below hW))
  have ER5 := Lib.hid (fun W (hW : Below w.heap.size w W) => err_same 5 W (hg.below hW))
  obtain ⟨v4, hv4⟩ : ∃ v, er 4 = v := ⟨_, rfl⟩
  rw [hv4] at ER4
  have HV4 := Lib.hid hv4
  clear hv4
  have NG := Lib.hid (fun W => new_good low many W hm1 hm2 hm3)
  have FA := Lib.hid (fun W (hW : Below w.heap.size w W) => fact_any W (hg.below hW))
  have HB0 := Lib.hid (brefl w)
  unfold Law
  go_enter Tryd.func5, Tryd.ntmps5
  go_wp2_with fail
  refine (FA.out _ HB0.out).mono ?_; rintro e w1 ⟨rfl, hb1⟩
  have HB1 := Lib.hid (bcall HB0.out hb1)
  clear FA hb1 HB0
  go_wp2_with fail
  refine (NG.out _).mono ?_; rintro e w2 ⟨b, rfl, ht2, hb2⟩
  have HB2 := Lib.hid (bcall HB1.out hb2)
  have HT := Lib.hid ht2
  have HXX := Lib.hid (fun k (hk : k < w.heap.size) => (show (fun k => k < w1.heap.size) k from Nat.lt_of_lt_of_le hk HB1.out.size))
  generalize hX : (fun k => k < w1.heap.size) = X at HT HXX
  clear hb2 ht2 NG HB1 hX
  go_wp2_with fail
  go_loopw [10] (fun iv wr => ∃ k : Nat, k ≤ many ∧ iv = .int .i64 (k : Int) ∧ Hid (Tab X wr b k low many (fil low k)) ∧ Hid (Below w.heap.size w wr)) (fun i _ => many - vN i)
  case atStart => exact ⟨0, Nat.zero_le _, rfl, Lib.hid (by rw [fil_zero]; exact HT.out), HB2⟩
  case round =>
    obtain ⟨k, hk, rfl, HS, HB⟩ := hrel
    clear HT HB2
    by_cases hlt : k < many
    · have u1 : decide ((k : Int) < (many : Int)) = true := decide_eq_true (by omega)
      have u2 : IntKind.i64.wrap ((low : Int) + (k : Int)) = (low : Int) + (k : Int) := wrap_in (by omega)
      have u3 : ((low : Int) + (k : Int) != (low : Int) + (k : Int)) = false := by simp
      have C := Lib.hid (out_any X b k low many (fil low k) ⟨k, 7⟩ wr HS.out (by omega))
      go_wp2_with fail
      refine C.out.mono ?_; rintro e w3 ⟨port, cc, h3, rfl, hR, ht3, hk3⟩
      obtain ⟨rfl, rfl, rfl⟩ := fil_step HS.out.tb hlt hR
      rw [er_0]
      have HT3 := Lib.hid ht3
      have HB3 := Lib.hid (HB.out.trans (hk3.below HXX.out))
      clear hR ht3 hk3 HS HB C
      go_wp2_with fail
      go_roundw
      case rel => exact ⟨k + 1, by omega, by first | rfl | go_num, HT3, HB3⟩
      case measure => simp [vN]; omega
    · obtain rfl : k = many := by omega
      have u1 : decide ((k : Int) < (k : Int)) = false := decide_eq_false (by omega)
      go_wp2_with fail
      refine (out_any X b k low k (fil low k) ⟨99, 7⟩ wr HS.out (by omega)).mono ?_; rintro e w3 ⟨port, cc, h3, rfl, hR, ht3, hk3⟩
      obtain ⟨rfl, rfl, rfl⟩ := fil_full HS.out.tb hR
      rw [HV4.out]
      have HT3 := Lib.hid ht3
      have HB3 := Lib.hid (HB.out.trans (hk3.below HXX.out))
      clear hR ht3 hk3 HS HB
      go_wp2_with fail
      refine (ER4.out w3 HB3.out).mono ?_; rintro e w4 ⟨rfl, hb4⟩
      have HB4 := Lib.hid (bcall HB3.out hb4)
      have HT4 := Lib.hid (HT3.out.below hb4)
      clear hb4 HT3 HB3
      go_wp2_with fail
      refine (lent_any X b (k + 1) low k (fil low k) w4 HT4.out (by omega)).mono ?_; rintro e w5 ⟨v, rfl, ho5, hb5⟩
      have HB5 := Lib.hid (bcall HB4.out hb5)
      have HT5 := Lib.hid (HT4.out.below hb5)
      obtain ⟨q, cp, rfl, _, _⟩ := own_read ho5
      rw [fil_len]
      have u4 : ((k : Int) != (k : Int)) = false := by simp
      clear hb5 ho5 HT4 HB4
      go_wp2_with fail
      have CD := Lib.hid (drop_any X b (k + 1) low k (fil low k) d w5 HT5.out hd)
      by_cases hin : (low : Int) ≤ d ∧ d < low + k
      · rw [show noneC (fil low k) d = 0 by unfold noneC fil; rw [if_pos hin]; rfl, er_0] at CD
        refine CD.out.mono ?_; rintro e w6 ⟨rfl, ht6, hk6⟩
        have HT6 := Lib.hid ht6
        have HB6 := Lib.hid (HB5.out.trans (hk6.below HXX.out))
        clear CD ht6 hk6 HT5 HB5
        go_wp2_with fail
        refine (out_any X b (k + 1) low k (upd (fil low k) d none) ⟨99, 7⟩ w6 HT6.out (by omega)).mono ?_; rintro e w7 ⟨port, cc, h7, rfl, hR, ht7, hk7⟩
        obtain ⟨rfl, rfl, rfl⟩ := fil_again HT6.out.tb hin hR
        rw [er_0]
        have HT7 := Lib.hid ht7
        have HB7 := Lib.hid (HB6.out.trans (hk7.below HXX.out))
        have CD2 := Lib.hid (drop_any X b (k + 1 + 1) low k _ ((low : Int) + k) w7 HT7.out (wf_in (by omega)))
        rw [fil_end hin] at CD2
        have u5 : (port == port) = true := by simp
        have u6 : IntKind.i64.wrap ((low : Int) + (k : Int)) = (low : Int) + (k : Int) := wrap_in (by omega)
        generalize er 5 = v5 at CD2 ER5
        clear hR ht7 hk7 HT6 HB6
        go_wp2_with fail
        refine CD2.out.mono ?_; rintro e w8 ⟨rfl, ht8, hk8⟩
        have HB8 := Lib.hid (HB7.out.trans (hk8.below HXX.out))
        clear ht8 hk8 CD2 HT7
        go_wp2_with fail
        refine (ER5.out w8 HB8.out).mono ?_; rintro e w9 ⟨rfl, hb9⟩
        have HB9 := Lib.hid (bcall HB8.out hb9)
        clear hb9
        go_wp2_with fail
        go_ret
        exact ⟨by first | rfl | simp, HB9.out⟩
      · rw [show noneC (fil low k) d = 5 by unfold noneC fil; rw [if_neg hin]; rfl, er_5] at CD
        refine CD.out.mono ?_; rintro e w6 ⟨rfl, ht6, hk6⟩
        have HB6 := Lib.hid (HB5.out.trans (hk6.below HXX.out))
        clear CD ht6 hk6 HT5 HB5
        by_cases hdl : d < (low : Int)
        · have u5 : decide (d < (low : Int)) = true := decide_eq_true hdl
          go_wp2_with fail
          go_ret
          exact ⟨by first | rfl | simp, HB6.out⟩
        · have u5 : decide (d < (low : Int)) = false := decide_eq_false hdl
          have u6 : IntKind.i64.wrap (d - (low : Int)) = d - (low : Int) := wrap_in (by omega)
          have u7 : decide ((k : Int) ≤ d - (low : Int)) = true := decide_eq_true (by omega)
          have u8 : decide (d - (low : Int) ≥ (k : Int)) = true := u7
          go_wp2_with fail
          go_ret
          exact ⟨by first | rfl | simp, HB6.out⟩

theorem reads : Tryd.f5.params.toList.all (fun t => Tryd.prog.readableRec t && decide (t < Tryd.prog.types.size)) = true := by kernel_rfl
theorem et : Tryd.prog.globalNamed "errors.errorType" = some 0 := by kernel_rfl
theorem rt : (Tryd.prog.cutTypes.find? (·.1 == "internal/reflectlite.rtype")).map (·.2) = some 102 := by kernel_rfl
theorem oneRow : ((List.range Tryd.prog.types.size).filter fun t => Tryd.prog.rowNamed t [101, 114, 114, 111, 114]) = [28] := by kernel_rfl

theorem handle_of_laid {W : World} (h : laidMetH Tryd.prog Rows.natFullRow.laid W) : Handle W := by
  have h' : laidMet Tryd.prog [] W ∧ handlesMet Tryd.prog Rows.natFullRow.laid W := h
  obtain ⟨name, u, ty, e1, e2, e3, e4, e5⟩ := h'.2 _ (List.mem_singleton.2 rfl)
  have en : name = [101, 114, 114, 111, 114] := (Option.some.inj e1).symm
  subst en
  obtain rfl := Option.some.inj (rt.symm.trans e2)
  have hm : ty ∈ (List.range Tryd.prog.types.size).filter fun t => Tryd.prog.rowNamed t [101, 114, 114, 111, 114] := List.mem_filter.2 ⟨List.mem_range.2 e3, e4⟩
  rw [oneRow] at hm
  obtain rfl := List.mem_singleton.1 hm
  have hh : typeHandle Tryd.prog 28 = .pointer (some ⟨1, 28, none⟩) := by kernel_rfl
  rw [hh] at e5
  have e6 := World.var?_cell et e5 0
  unfold Handle
  simpa using e6

noncomputable def laidWorld (os : Os) : World :=
  { World.holding Tryd.prog os ⟨#[], #[], []⟩ with heap := (World.holding Tryd.prog os ⟨#[], #[], []⟩).heap.modify 0 fun
      | .cells _ t frozen => .cells #[.iface 102 (.agg #[.pointer (some ⟨1, 28, none⟩)])] t frozen
      | o => o }
theorem laid_met (os : Os) : laidMetH Tryd.prog Rows.natFullRow.laid ((laidWorld os).forCall (fun _ _ => 0) ⟨#[], #[.int .i64 0, .int .i64 0, .int .i64 0], []⟩).memory :=
  laidMetH_of_parts (laidMet_nil _ _) (by kernel_rfl)
theorem reads_wit (os : Os) {H : Type} (enc : TypeId × Value → H) : ∃ places, DataW.whole enc Tryd.prog ((laidWorld os).forCall (fun _ _ => 0) ⟨#[], #[.int .i64 0, .int .i64 0, .int .i64 0], []⟩).memory Tryd.f5.params.toList Rows.natFullSpec.vars false (#[.int .i64 0, .int .i64 0, .int .i64 0] : Array Value).toList 8 = some ([.lit (.int .i64 0), .lit (.int .i64 0), .lit (.int .i64 0)], [], places) :=
  ⟨[], by kernel_rfl⟩

theorem contract (H : Type) (enc : TypeId × Value → H) (W : World) (base : Nat) (args : Array Value) (ds gs : List (DataW H)) (before : List MemPlace)
    (hval : ∀ (j : Nat) t v, Tryd.f5.params[j]? = some t → args[j]? = some v → Value.okWide Tryd.prog W .any base t v)
    (hW : DataW.Whole enc Tryd.prog Tryd.f5.params.toList Rows.natFullSpec.vars false W args.toList ds gs before) (hL : laidMetH Tryd.prog Rows.natFullRow.laid W) :
    Calls Tryd.prog 5 args W fun e W' => ∃ v, e = .returned v ∧ Rows.natFullSpec.post enc Tryd.prog Tryd.f5 false true false false W args v W' := by
  have hW' := hW
  have hg := handle_of_laid hL
  obtain ⟨p, q, hA0, hV, rfl, hfz, hnd⟩ := hW
  have hA : DataW.TrodAll enc Tryd.prog W 0 (fun _ => true) true Tryd.f5.params.toList args.toList ds p := hA0
  have hlt := hA.lt
  rw [Tryd.params5] at hA hval
  obtain ⟨v0, vs0, d0, ds0, p0, q0, hargs, rfl, rfl, h0, r0⟩ := trodAll_cons hA
  obtain ⟨v1, vs1, d1, ds1, p1, q1, hvs1, rfl, rfl, h1, r1⟩ := trodAll_cons r0
  obtain ⟨v2, vs2, d2, ds2, p2, q2, hvs2, rfl, rfl, h2, r2⟩ := trodAll_cons r1
  obtain ⟨hvsn, rfl, rfl⟩ := trodAll_nil r2
  simp only [hvsn, hvs2, hvs1] at hargs
  obtain rfl : args = #[v0, v1, v2] := by cases args; simp_all
  obtain ⟨a0, rfl, rfl, rfl, w0⟩ := open_int Tryd.underlying3 (hval 0 3 v0 rfl rfl) h0
  have b0 := bounds_int w0
  obtain ⟨a1, rfl, rfl, rfl, w1⟩ := open_int Tryd.underlying3 (hval 1 3 v1 rfl rfl) h1
  have b1 := bounds_int w1
  obtain ⟨a2, rfl, rfl, rfl, w2⟩ := open_int Tryd.underlying3 (hval 2 3 v2 rfl rfl) h2
  have b2 := bounds_int w2
  obtain ⟨rfl, rfl⟩ := trodVars_none hV
  clear hA0
  exact law_post 4 laid reads rfl Tryd.underlying4 rfl hW' ⟨rfl, rfl, rfl⟩ (by
    by_cases h : okN a0 a1
    · obtain ⟨low, rfl⟩ : ∃ n : Nat, a0 = n := ⟨a0.toNat, by have := h.1.1; omega⟩
      obtain ⟨many, rfl⟩ : ∃ n : Nat, a1 = n := ⟨a1.toNat, by have := h.2.1; omega⟩
      exact law_good low many a2 W hg (by have := h.2.1; omega) (by have := h.2.2.1; omega) (by have := h.2.2.2; omega) w2 b2
    · exact law_bad a2 a0 a1 W hg h b1)

set_option maxRecDepth 100000 in
theorem lifted (os : Os) (started : os.Started) (H : Type) (enc : TypeId × Value → H) (F : Stop.Interp) :
    ReturnsInHanded {} Tryd.checked os 5 .any ((OpenSpec.ofChange Rows.natFullSpec).preRow enc Tryd.prog Tryd.f5 Rows.natFullRow.domain false Rows.natFullRow.laid) (((OpenSpec.ofChange Rows.natFullSpec).at F).post enc Tryd.prog Tryd.f5 false true false false) := by
  obtain ⟨places, hx⟩ := reads_wit os enc
  refine returnsInHanded_of_row (C := Tryd.checked) (s := (OpenSpec.ofChange Rows.natFullSpec)) own started (by kernel_rfl) Tryd.func5
    (witness_row_at (enc := enc) (C := Tryd.checked) false (laidWorld os) #[.int .i64 0, .int .i64 0, .int .i64 0] rfl (by kernel_rfl) (by kernel_rfl) (by kernel_rfl)
      (OpenSpec.preRow_of_cond 8 hx (by kernel_rfl) (fun k hk => by cases hk) (by kernel_rfl) (laid_met os))) ?_
  intro W base args ds gs before hval hW _ hcond _ hL _ _
  exact contract H enc W base args ds gs before hval hW hL

theorem said : Rows.NatFullSaid :=
  OpenClaim.holds_of_cond 5 Tryd.f5 rfl rfl rfl rfl rfl rfl rfl ⟨rfl, rfl, rfl, rfl, rfl⟩ rfl rfl rfl rfl rfl (by kernel_rfl) Tryd.func5 (by kernel_rfl)
    (of_decide_eq_true (by kernel_rfl)) (by unfold Func.isWrapper; first | (rw [if_pos (by decide +kernel)]; kernel_rfl) | (rw [if_neg (by decide +kernel)]; exact ⟨rfl, rfl⟩))
    (fun os started H enc _ F => by rw [OpenClaim.pre_eq_preRow]; exact lifted os started H enc F)

theorem plain (f : FuncId) (fn : Func) (hf : Tryd.pinned.checked.prog.funcNamed Rows.natFullRow.func = some f) (hfn : Tryd.pinned.checked.prog.funcs[f]? = some fn) :
    true = Tryd.pinned.checked.prog.looks [] ∧ ∀ (j : Nat) t, fn.params[j]? = some t → Tryd.pinned.checked.prog.wantsStandIn t = false := by
  obtain rfl : f = 5 := Option.some.inj ((show Tryd.prog.funcNamed Rows.natFullRow.func = some 5 by kernel_rfl).symm.trans hf) |>.symm
  obtain rfl : fn = Tryd.f5 := (Option.some.inj (Tryd.func5.symm.trans hfn)).symm
  refine ⟨by kernel_rfl, fun j t ht => ?_⟩
  have hall : Tryd.f5.params.toList.all (fun t => !Tryd.prog.wantsStandIn t) = true := by kernel_rfl
  have hm : t ∈ Tryd.f5.params.toList := by simpa using Array.mem_of_getElem? ht
  have := List.all_eq_true.1 hall t hm
  show Tryd.prog.wantsStandIn t = false
  simpa using this

theorem proved : Rows.NatFullCardSaid :=
  Claim7.holds_tied_plain_at .later [] _ _ _ _ said (fun _ h => by cases h) (by kernel_rfl) (fun _ h => by cases h) natFull_row_tie rfl ⟨rfl, rfl⟩ (by kernel_rfl) rfl plain (by kernel_rfl)
end Go.Proofs.YtlojehakifagbaaDoor.NatFullL
