/- Where all levels of a wire are the other ones, the bits behind the first one are as they were: the law returns true for every input. No condition but what the card ties. -/
import Derived.Test.YtooicigocljomaaDoorCards
import Derived.Test.YtooicigocljomaaDoorTie
import Derived.Test.YtooicigocljomaaDoorLineLaid
import Derived.Deep.DeepHandedRow
import Derived.Lib.LaidTab
import Derived.LaidHandle
import Derived.SevenTiedAt
import Derived.Test.YtooicigocljomaaDoorLineLaw
import Derived.BigQuiet
import Derived.OrdersHeld
namespace Go.Proofs.YtooicigocljomaaDoor.lineTurnedP
open Go.ChangeShapes Go.WideShapes Go.ChangeAt Go.RowKit
open Go.Proofs.YtooicigocljomaaDoor.Kit Go.Proofs.YtooicigocljomaaDoor.App Go.Proofs.YtooicigocljomaaDoor.LineMath Go.Proofs.YtooicigocljomaaDoor.Line
set_option linter.unusedVariables false
set_option maxRecDepth 20000

/-- The other levels. -/
def oth (l : List Int) : List Int := l.map fun x => 1 - x
theorem oth_len (l : List Int) : (oth l).length = l.length := by simp [oth]
theorem oth_get (l : List Int) (k : Nat) (h : k < l.length) : (oth l)[k]?.getD 0 = 1 - l[k]?.getD 0 := by
  unfold oth
  rw [List.getElem?_map, List.getElem?_eq_getElem h]; rfl
theorem oth_bits {l : List Int} (h : upto 1 l = true) : upto 1 (oth l) = true := by
  refine upto_of fun k hk => ?_
  rw [oth_len] at hk
  rw [oth_get l k hk]
  have := upto_get h hk
  omega
theorem xr_oth (a b : Int) : xr (1 - a) (1 - b) = xr a b := by
  unfold xr
  by_cases h : a = b
  · rw [if_pos h, if_pos (by omega)]
  · rw [if_neg h, if_neg (by omega)]
theorem unt_oth (l : List Int) : (unt 0 l).drop 1 = (unt 0 (oth l)).drop 1 := by
  refine eq_of_get (by simp [unt_len, oth_len]) fun j hj => ?_
  rw [List.length_drop, unt_len] at hj
  rw [List.getElem?_drop, List.getElem?_drop, unt_get _ _ _ (by omega), unt_get _ _ _ (by rw [oth_len]; omega), if_neg (by omega), if_neg (by omega), oth_get l _ (by omega), oth_get l _ (by omega), xr_oth]
theorem unt_first {l : List Int} (h : upto 1 l = true) (h0 : 0 < l.length) : (unt 0 l)[0]?.getD 0 + (unt 0 (oth l))[0]?.getD 0 = 1 := by
  rw [unt_get _ _ _ h0, unt_get _ _ _ (by rw [oth_len]; exact h0), if_pos rfl, if_pos rfl, oth_get l 0 h0]
  rcases bit_cases (upto_get h h0) with e | e <;> rw [e] <;> decide

theorem law_bad (p : Option Addr) (cap : Nat) (l : List Int) (w : World) (h : Ints w p cap l) (hC : Codes w) (hb : bad 200 1 l ≠ 0) :
    Calls Tryd.prog 6 #[.slice p l.length cap] w fun e w' => e = .returned (.bool true) ∧ Below w.heap.size w w' := by
  have hlen := h.len_le
  have S := Lib.hid (fun W (hh : Ints W p cap l) => bits_bad p cap l.length l W rfl hh (bad 200 1 l) rfl hb)
  have HC := Lib.hid hC
  clear hb hC
  go_enter Tryd.func6, Tryd.ntmps6
  go_wp2_with fail
  refine (fact_any _ HC.out).mono ?_; rintro e w1 ⟨rfl, hb1⟩
  go_wp2_with fail
  refine (S.out w1 (h.below hb1)).mono ?_; rintro e w2 ⟨rfl, rfl⟩
  go_wp2_with fail
  go_ret
  exact ⟨rfl, hb1⟩

set_option maxHeartbeats 1000000 in
theorem law_good (p : Option Addr) (cap : Nat) (l : List Int) (w : World) (h : Ints w p cap l) (hC : Codes w) (hb : bad 200 1 l = 0) :
    Calls Tryd.prog 6 #[.slice p l.length cap] w fun e w' => e = .returned (.bool true) ∧ Below w.heap.size w w' := by
  have hlen := h.len_le
  have hl := (bad_zero hb).1
  have hu := Lib.hid (bad_zero hb).2
  have S := Lib.hid (fun W (hh : Ints W p cap l) => bits_ok p cap l.length l W rfl hh hb)
  have S2 := Lib.hid (fun q c n W (hn : n = (oth l).length) (hh : Ints W q c (oth l)) => bits_ok q c n (oth l) W hn hh (bad_of (by rw [oth_len]; exact hl) (oth_bits hu.out)))
  have HT := Lib.hid (unt_oth l)
  have HF := Lib.hid (fun h0 => unt_first (l := l) hu.out h0)
  have hla := unt_len l 0
  have hlb := unt_len (oth l) 0
  rw [oth_len] at hlb
  have hba := unt_bits l 0
  have hbb := unt_bits (oth l) 0
  obtain ⟨A, hA⟩ : ∃ A, unt 0 l = A := ⟨_, rfl⟩
  obtain ⟨B, hB'⟩ : ∃ B, unt 0 (oth l) = B := ⟨_, rfl⟩
  rw [hA] at S HT HF hla hba
  rw [hB'] at S2 HT HF hlb hbb
  clear hA hB'
  have HLA := Lib.hid hla
  have HLB := Lib.hid hlb
  have HBA := Lib.hid hba
  have HBB := Lib.hid hbb
  have HC := Lib.hid hC
  have e1 : (A.length : Int) = (l.length : Int) := by omega
  have e2 : (B.length : Int) = (l.length : Int) := by omega
  clear hb hC hla hlb hba hbb
  go_enter Tryd.func6, Tryd.ntmps6
  go_wp2_with fail
  refine (fact_any _ HC.out).mono ?_; rintro e w1 ⟨rfl, hb1⟩
  go_wp2_with fail
  refine (S.out w1 (h.below hb1)).mono ?_; rintro e w2 ⟨v, rfl, ho, hb2⟩
  obtain ⟨q, c, hq, hi0⟩ := ho.form
  rw [HLA.out] at hq
  subst hq
  have hi := Lib.hid hi0
  have hB := bcall hb1 hb2
  clear ho hb1 hb2 S hi0
  go_wp2_with fail
  go_loopw [6, 7] (fun v i wr => ∃ (k : Nat), k ≤ l.length ∧ i = .int .i64 k ∧ OwnI wr w2.heap.size v (oth (l.take k)) ∧ Below w2.heap.size w2 wr) (fun _ i _ => l.length - (intOf i).toNat)
  case atStart => exact ⟨0, Nat.zero_le _, rfl, OwnI.nil _ _, brefl _⟩
  case round =>
    obtain ⟨k, hk, rfl, hown, hBr⟩ := hrel
    by_cases hlt : k < l.length
    · obtain ⟨b, off, rfl, hbw, hc⟩ := (h.below (bcall hB hBr)).2.2.2 (by omega)
      have hck := hc k hlt
      have hxr := upto_get hu.out hlt
      have hs : oth (l.take (k + 1)) = oth (l.take k) ++ [1 - (l[k]?.getD 0)] := by
        rw [List.take_succ_eq_append_getElem hlt, List.getElem?_eq_getElem hlt]; simp only [oth, List.map_append]; rfl
      have hfl : (oth (l.take k)).length ≤ 200 := by rw [oth_len, List.length_take]; omega
      clear hc
      generalize l[k]?.getD 0 = x at hck hxr hs
      generalize oth (l.take k) = out at hs hown hfl
      have HS := Lib.hid hs
      have hyw : (Lit.int .i64 (1 - x)).wf = true := wf_bit (by omega) (by omega)
      have hBs := hBr.size
      clear hs
      go_wp2_with (at_builtin
                   refine wp_app rfl (.tmp 28) (.tmp 34) rfl w2.heap.size _ out (some ⟨wr.heap.size, 0, none⟩) 1 1 [1 - x] rfl (hown.alloc _) rfl rfl (Ints.one wr _ hyw) (by simp; omega) (Nat.le_trans hBs (by simp)) ?_
                   intro v1 wa hown1 hg1 hat1
                   have hb1 : Below w2.heap.size w2 wa := below_one hBr hBs _ hown hg1
                   clear hat1 hg1)
      go_roundw
      case rel => exact ⟨k + 1, by omega, by go_num, by rw [HS.out]; exact hown1, hb1⟩
      case measure => simp [intOf]; omega
    · obtain rfl : k = l.length := by omega
      rw [List.take_length] at hown
      obtain ⟨q2, c2, hq2, hi2⟩ := hown.form
      rw [oth_len] at hq2
      subst hq2
      have HI2 := Lib.hid hi2
      clear hown hi2
      go_wp2_with fail
      refine (S2.out q2 c2 l.length wr (oth_len l).symm HI2.out).mono ?_; rintro e w3 ⟨v3, rfl, ho3, hb3⟩
      obtain ⟨q3, c3, hq3, hi3⟩ := ho3.form
      rw [HLB.out] at hq3
      subst hq3
      have hBB := bcall (bcall hB hBr) hb3
      have hj := (hi.out.below hBr).below hb3
      clear ho3 hb3 HI2 S2
      by_cases h0 : l.length = 0
      · have hn : l = [] := List.eq_nil_of_length_eq_zero h0
        subst hn
        go_wp2_with (go_region)
        all_goals go_ret
        all_goals exact ⟨rfl, by first | exact hBB | exact hBB.drew⟩
      · have hpos : 0 < l.length := by omega
        obtain ⟨b, off, rfl, hbw, hc⟩ := hj.2.2.2 (by rw [HLA.out]; exact hpos)
        obtain ⟨b3, off3, rfl, hbw3, hc3⟩ := hi3.2.2.2 (by rw [HLB.out]; exact hpos)
        have a0 := hc 0 (by rw [HLA.out]; exact hpos)
        have b0 := hc3 0 (by rw [HLB.out]; exact hpos)
        have hsum := HF.out hpos
        have ha := upto_get HBA.out (k := 0) (by rw [HLA.out]; exact hpos)
        have hbx := upto_get HBB.out (k := 0) (by rw [HLB.out]; exact hpos)
        generalize A[0]?.getD 0 = x at a0 hsum ha
        generalize B[0]?.getD 0 = y at b0 hsum hbx
        rw [Nat.add_zero] at a0 b0
        have t9 : (x + y == 1) = true := by rw [beq_iff_eq]; exact hsum
        have g0 : ((l.length : Int) == 0) = false := by rw [beq_eq_false_iff_ne]; omega
        have hcap1 := hj.1
        have hcap3 := hi3.1
        rw [HLA.out] at hcap1
        rw [HLB.out] at hcap3
        have hcm1 : c ≤ 9223372036854775807 := by have := hj.2.1; unfold maxLen at this; omega
        have hcm3 : c3 ≤ 9223372036854775807 := by have := hi3.2.1; unfold maxLen at this; omega
        have f1 : (1 : Int) ≤ (l.length : Int) := by omega
        clear hc hc3
        go_wp2_with fail
        by_cases hx1 : c = 1
        · by_cases hx3 : c3 = 1
          · have T := fun (nq n1 n3 k1 k3 : Nat) (m1 : n1 = l.length - 1) (m3 : n3 = l.length - 1) (m2 : k1 = c - 1) (m4 : k3 = c3 - 1) => ints_any_q (some ⟨b, off, none⟩) (some ⟨b3, off3, none⟩) k1 k3 n1 n3 (A.drop 1) (B.drop 1) (w3.drewN nq) (by rw [List.length_drop, HLA.out]; exact m1) (by rw [List.length_drop, HLB.out]; exact m3)
              (ints_none _ _ _ _ (by unfold maxLen; omega) (List.drop_eq_nil_of_le (by rw [HLA.out]; omega))) (ints_none _ _ _ _ (by unfold maxLen; omega) (List.drop_eq_nil_of_le (by rw [HLB.out]; omega))) true (by rw [HT.out, beq_self_eq_true])
            have TT := Lib.hid T
            clear T hj hi3
            go_quiet ((go_at_call 12; refine Calls.quiet_of (TT.out _ _ _ _ _ (by omega) (by omega) (by omega) (by omega))))
            go_wp2_with fail
            go_ret
            exact ⟨rfl, below_drewN hBB _⟩
          · have T := fun (nq n1 n3 k1 k3 : Nat) (m1 : n1 = l.length - 1) (m3 : n3 = l.length - 1) (m2 : k1 = c - 1) (m4 : k3 = c3 - 1) => ints_any_q (some ⟨b, off, none⟩) (some ⟨b3, off3 + 1, none⟩) k1 k3 n1 n3 (A.drop 1) (B.drop 1) (w3.drewN nq) (by rw [List.length_drop, HLA.out]; exact m1) (by rw [List.length_drop, HLB.out]; exact m3)
              (ints_none _ _ _ _ (by unfold maxLen; omega) (List.drop_eq_nil_of_le (by rw [HLA.out]; omega))) (ints_tail hi3 1 k3 (by rw [HLB.out]; omega) (by rw [HLB.out]; omega) (by unfold maxLen; omega)) true (by rw [HT.out, beq_self_eq_true])
            have TT := Lib.hid T
            clear T hj hi3
            go_quiet ((go_at_call 12; refine Calls.quiet_of (TT.out _ _ _ _ _ (by omega) (by omega) (by omega) (by omega))))
            go_wp2_with fail
            go_ret
            exact ⟨rfl, below_drewN hBB _⟩
        · by_cases hx3 : c3 = 1
          · have T := fun (nq n1 n3 k1 k3 : Nat) (m1 : n1 = l.length - 1) (m3 : n3 = l.length - 1) (m2 : k1 = c - 1) (m4 : k3 = c3 - 1) => ints_any_q (some ⟨b, off + 1, none⟩) (some ⟨b3, off3, none⟩) k1 k3 n1 n3 (A.drop 1) (B.drop 1) (w3.drewN nq) (by rw [List.length_drop, HLA.out]; exact m1) (by rw [List.length_drop, HLB.out]; exact m3)
              (ints_tail hj 1 k1 (by rw [HLA.out]; omega) (by rw [HLA.out]; omega) (by unfold maxLen; omega)) (ints_none _ _ _ _ (by unfold maxLen; omega) (List.drop_eq_nil_of_le (by rw [HLB.out]; omega))) true (by rw [HT.out, beq_self_eq_true])
            have TT := Lib.hid T
            clear T hj hi3
            go_quiet ((go_at_call 12; refine Calls.quiet_of (TT.out _ _ _ _ _ (by omega) (by omega) (by omega) (by omega))))
            go_wp2_with fail
            go_ret
            exact ⟨rfl, below_drewN hBB _⟩
          · have T := fun (nq n1 n3 k1 k3 : Nat) (m1 : n1 = l.length - 1) (m3 : n3 = l.length - 1) (m2 : k1 = c - 1) (m4 : k3 = c3 - 1) => ints_any_q (some ⟨b, off + 1, none⟩) (some ⟨b3, off3 + 1, none⟩) k1 k3 n1 n3 (A.drop 1) (B.drop 1) (w3.drewN nq) (by rw [List.length_drop, HLA.out]; exact m1) (by rw [List.length_drop, HLB.out]; exact m3)
              (ints_tail hj 1 k1 (by rw [HLA.out]; omega) (by rw [HLA.out]; omega) (by unfold maxLen; omega)) (ints_tail hi3 1 k3 (by rw [HLB.out]; omega) (by rw [HLB.out]; omega) (by unfold maxLen; omega)) true (by rw [HT.out, beq_self_eq_true])
            have TT := Lib.hid T
            clear T hj hi3
            go_quiet ((go_at_call 12; refine Calls.quiet_of (TT.out _ _ _ _ _ (by omega) (by omega) (by omega) (by omega))))
            go_wp2_with fail
            go_ret
            exact ⟨rfl, below_drewN hBB _⟩

theorem law_any (p : Option Addr) (cap : Nat) (l : List Int) (w : World) (h : Ints w p cap l) (hC : Codes w) :
    Calls Tryd.prog 6 #[.slice p l.length cap] w fun e w' => e = .returned (.bool true) ∧ Below w.heap.size w w' := by
  by_cases hb : bad 200 1 l = 0
  · exact law_good p cap l w h hC hb
  · exact law_bad p cap l w h hC hb

theorem reads : Tryd.f6.params.toList.all (fun t => Tryd.prog.readableRec t && decide (t < Tryd.prog.types.size)) = true := by kernel_rfl

theorem codes_of {W : World} (h : laidMetH Tryd.prog Rows.lineTurnedRow.laid W) : Line.Codes W := by
  have h' : laidMet Tryd.prog [("ferryhythe/line.codes", Rows.laid_ferryhythe_line_codes)] W := h
  exact Line.codes_of_laid h'

noncomputable def laidWorld (os : Os) : World :=
  { World.holding Tryd.prog os ⟨#[], #[], []⟩ with heap := (World.holding Tryd.prog os ⟨#[], #[], []⟩).heap.modify 0 fun
      | .cells _ t frozen => .cells (LineMath.tab.map (Value.int .i64)).toArray t frozen
      | o => o }
theorem laid_met (os : Os) : laidMetH Tryd.prog Rows.lineTurnedRow.laid ((laidWorld os).forCall (fun _ _ => 0) ⟨#[], #[.slice none 0 0], []⟩).memory :=
  show laidMet Tryd.prog [("ferryhythe/line.codes", Rows.laid_ferryhythe_line_codes)] _ from laidMet_of_run' 10 (by kernel_rfl) (by kernel_rfl)
theorem reads_wit (os : Os) {H : Type} (enc : TypeId × Value → H) : ∃ places, DataW.whole enc Tryd.prog ((laidWorld os).forCall (fun _ _ => 0) ⟨#[], #[.slice none 0 0], []⟩).memory Tryd.f6.params.toList Rows.lineTurnedSpec.vars false (#[.slice none 0 0] : Array Value).toList 8 = some ([.nil], [], places) :=
  ⟨[], by kernel_rfl⟩

theorem contract (H : Type) (enc : TypeId × Value → H) (W : World) (base : Nat) (args : Array Value) (ds gs : List (DataW H)) (before : List MemPlace)
    (hval : ∀ (j : Nat) t v, Tryd.f6.params[j]? = some t → args[j]? = some v → Value.okWide Tryd.prog W .any base t v)
    (hW : DataW.Whole enc Tryd.prog Tryd.f6.params.toList Rows.lineTurnedSpec.vars false W args.toList ds gs before) (hL : laidMetH Tryd.prog Rows.lineTurnedRow.laid W) :
    Calls Tryd.prog 6 args W fun e W' => ∃ v, e = .returned v ∧ Rows.lineTurnedSpec.post enc Tryd.prog Tryd.f6 false true false false W args v W' := by
  have hW' := hW
  have hC := codes_of hL
  obtain ⟨p, q, hA0, hV, rfl, hfz, hnd⟩ := hW
  have hA : DataW.TrodAll enc Tryd.prog W 0 (fun _ => true) true Tryd.f6.params.toList args.toList ds p := hA0
  have hlt := hA.lt
  rw [Tryd.params6] at hA hval
  obtain ⟨v0, vs0, d0, ds0, p0, q0, hargs, rfl, rfl, h0, r0⟩ := trodAll_cons hA
  obtain ⟨hvsn, rfl, rfl⟩ := trodAll_nil r0
  simp only [hvsn] at hargs
  obtain rfl : args = #[v0] := by cases args; simp_all
  obtain ⟨p0a, cap0, l0, rfl, i0⟩ := open_intsl Tryd.underlying22 Tryd.underlying3 (by kernel_rfl) (hval 0 22 v0 rfl rfl) h0 (fun x hx => hlt x (by simp [hx]))
  obtain ⟨rfl, rfl⟩ := trodVars_none hV
  clear hA0
  exact law_post 4 laid reads rfl Tryd.underlying4 rfl hW' ⟨rfl, rfl, rfl⟩ (law_any p0a cap0 l0 W i0 hC)

set_option maxRecDepth 100000 in
theorem lifted (os : Os) (started : os.Started) (H : Type) (enc : TypeId × Value → H) (F : Stop.Interp) :
    ReturnsInHanded {} Tryd.checked os 6 .any ((OpenSpec.ofChange Rows.lineTurnedSpec).preRow enc Tryd.prog Tryd.f6 Rows.lineTurnedRow.domain false Rows.lineTurnedRow.laid) (((OpenSpec.ofChange Rows.lineTurnedSpec).at F).post enc Tryd.prog Tryd.f6 false true false false) := by
  obtain ⟨places, hx⟩ := reads_wit os enc
  refine returnsInHanded_of_row (C := Tryd.checked) (s := (OpenSpec.ofChange Rows.lineTurnedSpec)) own started (by kernel_rfl) Tryd.func6
    (witness_row_at (enc := enc) (C := Tryd.checked) false (laidWorld os) #[.slice none 0 0] rfl (by kernel_rfl) (by kernel_rfl) (by kernel_rfl)
      (OpenSpec.preRow_of_cond 8 hx (by kernel_rfl) (fun k hk => by cases hk) (by kernel_rfl) (laid_met os))) ?_
  intro W base args ds gs before hval hW _ hcond _ hL _ _
  exact contract H enc W base args ds gs before hval hW hL

theorem said : Rows.LineTurnedSaid :=
  OpenClaim.holds_of_cond 6 Tryd.f6 rfl rfl rfl rfl rfl rfl rfl ⟨rfl, rfl, rfl, rfl, rfl⟩ rfl rfl rfl rfl rfl (by kernel_rfl) Tryd.func6 (by kernel_rfl)
    (of_decide_eq_true (by kernel_rfl)) (by unfold Func.isWrapper; first | (rw [if_pos (by decide +kernel)]; kernel_rfl) | (rw [if_neg (by decide +kernel)]; exact ⟨rfl, rfl⟩))
    (fun os started H enc _ F => by rw [OpenClaim.pre_eq_preRow]; exact lifted os started H enc F)

theorem plain (f : FuncId) (fn : Func) (hf : Tryd.pinned.checked.prog.funcNamed Rows.lineTurnedRow.func = some f) (hfn : Tryd.pinned.checked.prog.funcs[f]? = some fn) :
    true = Tryd.pinned.checked.prog.looks [] ∧ ∀ (j : Nat) t, fn.params[j]? = some t → Tryd.pinned.checked.prog.wantsStandIn t = false := by
  obtain rfl : f = 6 := Option.some.inj ((show Tryd.prog.funcNamed Rows.lineTurnedRow.func = some 6 by kernel_rfl).symm.trans hf) |>.symm
  obtain rfl : fn = Tryd.f6 := (Option.some.inj (Tryd.func6.symm.trans hfn)).symm
  refine ⟨by kernel_rfl, fun j t ht => ?_⟩
  have hall : Tryd.f6.params.toList.all (fun t => !Tryd.prog.wantsStandIn t) = true := by kernel_rfl
  have hm : t ∈ Tryd.f6.params.toList := by simpa using Array.mem_of_getElem? ht
  have := List.all_eq_true.1 hall t hm
  show Tryd.prog.wantsStandIn t = false
  simpa using this

theorem proved : Rows.LineTurnedCardSaid :=
  Claim7.holds_tied_plain_at .later [] _ _ _ _ said (fun _ h => by cases h) (by kernel_rfl) (fun _ h => by cases h) lineTurned_row_tie rfl ⟨rfl, rfl⟩ (by kernel_rfl) rfl plain (by kernel_rfl)

end Go.Proofs.YtooicigocljomaaDoor.lineTurnedP
