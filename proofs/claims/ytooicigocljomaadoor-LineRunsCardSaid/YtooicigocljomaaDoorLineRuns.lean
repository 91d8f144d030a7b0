/- Of numbers no more than three bits on end are 0: the law returns true for every input. No condition but what the card ties. -/
import Derived.Test.YtooicigocljomaaDoorCards
import Derived.Test.YtooicigocljomaaDoorTie
import Derived.Test.YtooicigocljomaaDoorLineLaid
import Derived.Deep.DeepHandedRow
import Derived.Lib.LaidTab
import Derived.LaidHandle
import Derived.SevenTiedAt
import Derived.Test.YtooicigocljomaaDoorLineLaw
namespace Go.Proofs.YtooicigocljomaaDoor.lineRunsP
open Go.ChangeShapes Go.WideShapes Go.ChangeAt Go.RowKit
open Go.Proofs.YtooicigocljomaaDoor.Kit Go.Proofs.YtooicigocljomaaDoor.App Go.Proofs.YtooicigocljomaaDoor.LineMath Go.Proofs.YtooicigocljomaaDoor.Line
set_option linter.unusedVariables false
set_option maxRecDepth 20000

theorem law_bad (p : Option Addr) (cap : Nat) (l : List Int) (w : World) (h : Ints w p cap l) (hC : Codes w) (hb : bad 40 15 l ≠ 0) :
    Calls Tryd.prog 5 #[.slice p l.length cap] w fun e w' => e = .returned (.bool true) ∧ Below w.heap.size w w' := by
  have hlen := h.len_le
  have S := Lib.hid (fun W (hh : Ints W p cap l) => five_bad p cap l.length l W rfl hh (bad 40 15 l) rfl hb)
  have HC := Lib.hid hC
  clear hb hC
  go_enter Tryd.func5, Tryd.ntmps5
  go_wp2_with fail
  refine (fact_any _ HC.out).mono ?_; rintro e w1 ⟨rfl, hb1⟩
  go_wp2_with fail
  refine (S.out w1 (h.below hb1)).mono ?_; rintro e w2 ⟨rfl, rfl⟩
  go_wp2_with fail
  go_ret
  exact ⟨rfl, hb1⟩

set_option maxHeartbeats 1000000 in
theorem law_good (p : Option Addr) (cap : Nat) (l : List Int) (w : World) (h : Ints w p cap l) (hC : Codes w) (hb : bad 40 15 l = 0) :
    Calls Tryd.prog 5 #[.slice p l.length cap] w fun e w' => e = .returned (.bool true) ∧ Below w.heap.size w w' := by
  have hlen := h.len_le
  have hl := (bad_zero hb).1
  have S := Lib.hid (fun W (hh : Ints W p cap l) (hc : Codes W) => five_ok p cap l.length l W rfl hh hb hc)
  have hz := zers_five l (bad_zero hb).2 0 (by omega)
  have hL := five_len l
  have HC := Lib.hid hC
  clear hb hC
  obtain ⟨m, hm⟩ : ∃ m, five l = m := ⟨_, rfl⟩
  rw [hm] at S hz hL
  clear hm
  have HZ := Lib.hid hz
  have hm200 : m.length ≤ 200 := by omega
  have t1 : ((m.length : Int) == 5 * (l.length : Int)) = true := by rw [beq_iff_eq]; omega
  have HL := Lib.hid hL
  clear hz hL
  go_enter Tryd.func5, Tryd.ntmps5
  go_wp2_with fail
  refine (fact_any _ HC.out).mono ?_; rintro e w1 ⟨rfl, hb1⟩
  go_wp2_with fail
  refine (S.out w1 (h.below hb1) (HC.out.below hb1)).mono ?_; rintro e w2 ⟨v, rfl, ho, hb2⟩
  obtain ⟨q, cap2, rfl, hi⟩ := ho.form
  have hB := bcall hb1 hb2
  clear ho hb1 hb2 h HC S
  go_wp2_with fail
  go_loop [6, 7] (fun z i => ∃ (k : Nat), k ≤ m.length ∧ i = .int .i64 k ∧ z = .int .i64 (zers 0 (m.take k) : Nat)) (fun _ i => m.length - (intOf i).toNat)
  case atStart => exact ⟨0, Nat.zero_le _, rfl, rfl⟩
  case round =>
    obtain ⟨k, hk, rfl, rfl⟩ := hrel
    by_cases hlt : k < m.length
    · obtain ⟨b, off, rfl, hbw, hc⟩ := hi.2.2.2 (by omega)
      have hck := hc k hlt
      have h1 := HZ.out k (by have := HL.out; omega)
      have h2 := HZ.out (k + 1) (by have := HL.out; omega)
      have hs : zers 0 (m.take (k + 1)) = zer (zers 0 (m.take k)) (m[k]?.getD 0) := by
        rw [List.take_succ_eq_append_getElem hlt, List.getElem?_eq_getElem hlt]; unfold zers; rw [List.foldl_append]; rfl
      rw [hs] at h2
      have HS := Lib.hid hs
      clear hs hc hi
      generalize m[k]?.getD 0 = x at hck h2 HS
      generalize zers 0 (m.take k) = z at h1 h2 HS ⊢
      by_cases hx : x = 1
      · subst hx
        have e : zer z 1 = 0 := by simp [zer]
        rw [e] at HS
        clear h2 e
        go_wp2_with fail
        go_round
        case rel => exact ⟨k + 1, by omega, by go_num, by rw [HS.out]; rfl⟩
        case measure => simp [intOf]; omega
      · have e : zer z x = z + 1 := by simp [zer, hx]
        rw [e] at HS h2
        have t2 : (x == 1) = false := by rw [beq_eq_false_iff_ne]; exact hx
        have t3 : decide ((z : Int) + 1 > 3) = false := decide_eq_false (by omega)
        clear e
        go_wp2_with fail
        go_round
        case rel => exact ⟨k + 1, by omega, by go_num, by rw [HS.out]; rfl⟩
        case measure => simp [intOf]; omega
    · obtain rfl : k = m.length := by omega
      go_wp2_with fail
      go_ret
      exact ⟨rfl, hB⟩

theorem law_any (p : Option Addr) (cap : Nat) (l : List Int) (w : World) (h : Ints w p cap l) (hC : Codes w) :
    Calls Tryd.prog 5 #[.slice p l.length cap] w fun e w' => e = .returned (.bool true) ∧ Below w.heap.size w w' := by
  by_cases hb : bad 40 15 l = 0
  · exact law_good p cap l w h hC hb
  · exact law_bad p cap l w h hC hb

theorem reads : Tryd.f5.params.toList.all (fun t => Tryd.prog.readableRec t && decide (t < Tryd.prog.types.size)) = true := by kernel_rfl

theorem codes_of {W : World} (h : laidMetH Tryd.prog Rows.lineRunsRow.laid W) : Line.Codes W := by
  have h' : laidMet Tryd.prog [("ferryhythe/line.codes", Rows.laid_ferryhythe_line_codes)] W := h
  exact Line.codes_of_laid h'

noncomputable def laidWorld (os : Os) : World :=
  { World.holding Tryd.prog os ⟨#[], #[], []⟩ with heap := (World.holding Tryd.prog os ⟨#[], #[], []⟩).heap.modify 0 fun
      | .cells _ t frozen => .cells (LineMath.tab.map (Value.int .i64)).toArray t frozen
      | o => o }
theorem laid_met (os : Os) : laidMetH Tryd.prog Rows.lineRunsRow.laid ((laidWorld os).forCall (fun _ _ => 0) ⟨#[], #[.slice none 0 0], []⟩).memory :=
  show laidMet Tryd.prog [("ferryhythe/line.codes", Rows.laid_ferryhythe_line_codes)] _ from laidMet_of_run' 10 (by kernel_rfl) (by kernel_rfl)
theorem reads_wit (os : Os) {H : Type} (enc : TypeId × Value → H) : ∃ places, DataW.whole enc Tryd.prog ((laidWorld os).forCall (fun _ _ => 0) ⟨#[], #[.slice none 0 0], []⟩).memory Tryd.f5.params.toList Rows.lineRunsSpec.vars false (#[.slice none 0 0] : Array Value).toList 8 = some ([.nil], [], places) :=
  ⟨[], by kernel_rfl⟩

theorem contract (H : Type) (enc : TypeId × Value → H) (W : World) (base : Nat) (args : Array Value) (ds gs : List (DataW H)) (before : List MemPlace)
    (hval : ∀ (j : Nat) t v, Tryd.f5.params[j]? = some t → args[j]? = some v → Value.okWide Tryd.prog W .any base t v)
    (hW : DataW.Whole enc Tryd.prog Tryd.f5.params.toList Rows.lineRunsSpec.vars false W args.toList ds gs before) (hL : laidMetH Tryd.prog Rows.lineRunsRow.laid W) :
    Calls Tryd.prog 5 args W fun e W' => ∃ v, e = .returned v ∧ Rows.lineRunsSpec.post enc Tryd.prog Tryd.f5 false true false false W args v W' := by
  have hW' := hW
  have hC := codes_of hL
  obtain ⟨p, q, hA0, hV, rfl, hfz, hnd⟩ := hW
  have hA : DataW.TrodAll enc Tryd.prog W 0 (fun _ => true) true Tryd.f5.params.toList args.toList ds p := hA0
  have hlt := hA.lt
  rw [Tryd.params5] at hA hval
  obtain ⟨v0, vs0, d0, ds0, p0, q0, hargs, rfl, rfl, h0, r0⟩ := trodAll_cons hA
  obtain ⟨hvsn, rfl, rfl⟩ := trodAll_nil r0
  simp only [hvsn] at hargs
  obtain rfl : args = #[v0] := by cases args; simp_all
  obtain ⟨p0a, cap0, l0, rfl, i0⟩ := open_intsl Tryd.underlying22 Tryd.underlying3 (by kernel_rfl) (hval 0 22 v0 rfl rfl) h0 (fun x hx => hlt x (by simp [hx]))
  obtain ⟨rfl, rfl⟩ := trodVars_none hV
  clear hA0
  exact law_post 4 laid reads rfl Tryd.underlying4 rfl hW' ⟨rfl, rfl, rfl⟩ (law_any p0a cap0 l0 W i0 hC)

set_option maxRecDepth 100000 in
theorem lifted (os : Os) (started : os.Started) (H : Type) (enc : TypeId × Value → H) (F : Stop.Interp) :
    ReturnsInHanded {} Tryd.checked os 5 .any ((OpenSpec.ofChange Rows.lineRunsSpec).preRow enc Tryd.prog Tryd.f5 Rows.lineRunsRow.domain false Rows.lineRunsRow.laid) (((OpenSpec.ofChange Rows.lineRunsSpec).at F).post enc Tryd.prog Tryd.f5 false true false false) := by
  obtain ⟨places, hx⟩ := reads_wit os enc
  refine returnsInHanded_of_row (C := Tryd.checked) (s := (OpenSpec.ofChange Rows.lineRunsSpec)) own started (by kernel_rfl) Tryd.func5
    (witness_row_at (enc := enc) (C := Tryd.checked) false (laidWorld os) #[.slice none 0 0] rfl (by kernel_rfl) (by kernel_rfl) (by kernel_rfl)
      (OpenSpec.preRow_of_cond 8 hx (by kernel_rfl) (fun k hk => by cases hk) (by kernel_rfl) (laid_met os))) ?_
  intro W base args ds gs before hval hW _ hcond _ hL _ _
  exact contract H enc W base args ds gs before hval hW hL

theorem said : Rows.LineRunsSaid :=
  OpenClaim.holds_of_cond 5 Tryd.f5 rfl rfl rfl rfl rfl rfl rfl ⟨rfl, rfl, rfl, rfl, rfl⟩ rfl rfl rfl rfl rfl (by kernel_rfl) Tryd.func5 (by kernel_rfl)
    (of_decide_eq_true (by kernel_rfl)) (by unfold Func.isWrapper; first | (rw [if_pos (by decide +kernel)]; kernel_rfl) | (rw [if_neg (by decide +kernel)]; exact ⟨rfl, rfl⟩))
    (fun os started H enc _ F => by rw [OpenClaim.pre_eq_preRow]; exact lifted os started H enc F)

theorem plain (f : FuncId) (fn : Func) (hf : Tryd.pinned.checked.prog.funcNamed Rows.lineRunsRow.func = some f) (hfn : Tryd.pinned.checked.prog.funcs[f]? = some fn) :
    true = Tryd.pinned.checked.prog.looks [] ∧ ∀ (j : Nat) t, fn.params[j]? = some t → Tryd.pinned.checked.prog.wantsStandIn t = false := by
  obtain rfl : f = 5 := Option.some.inj ((show Tryd.prog.funcNamed Rows.lineRunsRow.func = some 5 by kernel_rfl).symm.trans hf) |>.symm
  obtain rfl : fn = Tryd.f5 := (Option.some.inj (Tryd.func5.symm.trans hfn)).symm
  refine ⟨by kernel_rfl, fun j t ht => ?_⟩
  have hall : Tryd.f5.params.toList.all (fun t => !Tryd.prog.wantsStandIn t) = true := by kernel_rfl
  have hm : t ∈ Tryd.f5.params.toList := by simpa using Array.mem_of_getElem? ht
  have := List.all_eq_true.1 hall t hm
  show Tryd.prog.wantsStandIn t = false
  simpa using this

theorem proved : Rows.LineRunsCardSaid :=
  Claim7.holds_tied_plain_at .later [] _ _ _ _ said (fun _ h => by cases h) (by kernel_rfl) (fun _ h => by cases h) lineRuns_row_tie rfl ⟨rfl, rfl⟩ (by kernel_rfl) rfl plain (by kernel_rfl)

end Go.Proofs.YtooicigocljomaaDoor.lineRunsP
