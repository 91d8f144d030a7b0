/- RetryTwo: two stations that pick different delays both succeed in the next two slots, equal ones meet again: for every input. No condition. -/
import Derived.Test.YteggajhpjdidcaaRetryFact
import Derived.Test.YteggajhpjdidcaaIn4
import Derived.Test.YteggajhpjdidcaaSub
namespace Go.Proofs.Yteggajhpjdidcaa.RetryTwoL
open Go.ChangeShapes Go.WideShapes Go.ChangeAt Go.RowKit Go.Proofs.Yteggajhpjdidcaa.Kit Go.Proofs.Yteggajhpjdidcaa.App Go.Proofs.Yteggajhpjdidcaa.Err Go.Proofs.Yteggajhpjdidcaa.RetryMath Go.Proofs.Yteggajhpjdidcaa.Retry
set_option linter.unusedVariables false
set_option maxRecDepth 20000
set_option maxHeartbeats 4000000
abbrev Law (x y : Int) (w : World) : Prop := Calls Try.prog 6 #[.int .i64 x, .int .i64 y] w fun e w' => e = .returned (.bool true) ∧ Below w.heap.size w w'
theorem law_bad (x y : Int) (w : World) (wx : (Lit.int .i64 x).wf = true) (wy : (Lit.int .i64 y).wf = true) (h : ¬ (0 ≤ x ∧ x ≤ 1000 ∧ 0 ≤ y ∧ y ≤ 1000)) : Law x y w := by
  have hc : code 2 [x, y] = 1 := by
    unfold code
    rw [if_pos (by decide), if_neg (by simp), if_neg]
    intro h1
    rw [List.all_cons, List.all_cons, Bool.and_eq_true, Bool.and_eq_true] at h1
    have h2 := fit_iff.1 h1.1
    have h3 := fit_iff.1 h1.2.1
    omega
  have LW := Lib.hid (fun W => lit_ints W [x, y] (by intro z hz; rcases List.mem_cons.1 hz with rfl | hz; exact wx; rw [List.mem_singleton.1 hz]; exact wy) (show 2 ≤ 700 by decide))
  have RB := Lib.hid (fun W p c (hW : Ints W p c [x, y]) => run_bad 2 p c 2 [x, y] W rfl hW 1 hc (by decide))
  rw [er_ne (by decide)] at RB
  have IX := Lib.hid (fun W => Ring.in_any x 0 1000 W _ rfl)
  have IY := Lib.hid (fun W => Ring.in_any y 0 1000 W _ rfl)
  have hxy : (decide (0 ≤ x) && decide (x ≤ 1000)) = false ∨ (decide (0 ≤ x) && decide (x ≤ 1000)) = true ∧ (decide (0 ≤ y) && decide (y ≤ 1000)) = false := by
    by_cases h1 : 0 ≤ x ∧ x ≤ 1000
    · exact .inr ⟨(in_true h1).symm, (in_false (by omega)).symm⟩
    · exact .inl (in_false h1).symm
  clear hc h wx wy
  have FA := Lib.hid (Retry.fact_any w)
  unfold Law
  go_enter Try.func6, Try.ntmps6
  go_wp2_with fail
  refine FA.out.mono ?_; rintro e w1 ⟨rfl, hb1⟩
  have HB1 := Lib.hid hb1
  clear FA hb1
  go_wp2_with fail
  refine (RB.out _ _ _ (LW.out w1)).mono ?_; rintro e w2 ⟨rfl, hb⟩
  have HB2 := Lib.hid (bcall (balloc HB1.out _) hb)
  clear RB LW HB1 hb
  go_wp2_with fail
  refine (IX.out w2).mono ?_; rintro e w3 ⟨rfl, hw3⟩
  rw [hw3]
  clear hw3 w3
  rcases hxy with h1 | ⟨h1, h2⟩
  · rw [h1]
    go_wp2_with fail
    go_ret
    exact ⟨by first | rfl | simp, HB2.out⟩
  · rw [h1]
    go_wp2_with fail
    refine (IY.out w2).mono ?_; rintro e w3 ⟨rfl, hw3⟩
    rw [hw3, h2]
    clear hw3 w3
    go_wp2_with fail
    go_ret
    exact ⟨by first | rfl | simp, HB2.out⟩
theorem law_same (a b : Nat) (w : World) (ha : a ≤ 1000) (hb : b ≤ 1000) (h : a % 2 = b % 2) : Law (a : Int) (b : Int) w := by
  have hm : (sent 2 [(a : Int), (b : Int)]).length = 0 := by rw [sent_two]; simp [h]
  have hw : who 2 [(a : Int), (b : Int)] = [] := by unfold who; rw [sent_two]; simp [h]
  have hs : Retry.slots 2 [(a : Int), (b : Int)] = [] := by unfold Retry.slots; rw [sent_two]; simp [h]
  have wa : (Lit.int .i64 (a : Int)).wf = true := by simp [Lit.wf, IntKind.min, IntKind.max, IntKind.signed, IntKind.bits]; omega
  have wb : (Lit.int .i64 (b : Int)).wf = true := by simp [Lit.wf, IntKind.min, IntKind.max, IntKind.signed, IntKind.bits]; omega
  have LW := Lib.hid (fun W => lit_ints W [(a : Int), (b : Int)] (by intro z hz; rcases List.mem_cons.1 hz with rfl | hz; exact wa; rw [List.mem_singleton.1 hz]; exact wb) (show 2 ≤ 700 by decide))
  have g : Retry.Good 2 [(a : Int), (b : Int)] := ⟨by decide, by decide, by simp, fun k hk => by
    have hk2 : k < 2 := hk
    rcases k with _|_|k
    · simp; omega
    · simp; omega
    · omega⟩
  have RG := Lib.hid (fun W p c (hW : Ints W p c [(a : Int), (b : Int)]) => run_good 2 p c 2 [(a : Int), (b : Int)] W rfl hW g 0 hm)
  rw [hw, hs, show ((2 : Nat) : Int) = 2 from rfl] at RG
  have t0 : ((a : Int) % 2 == (b : Int) % 2) = true := by rw [beq_iff_eq]; omega
  clear hm hw hs wa wb g h
  have FA := Lib.hid (Retry.fact_any w)
  unfold Law
  go_enter Try.func6, Try.ntmps6
  go_wp2_with fail
  refine FA.out.mono ?_; rintro e w1 ⟨rfl, hb1⟩
  have HB1 := Lib.hid hb1
  clear FA hb1
  go_wp2_with fail
  refine (RG.out _ _ _ (LW.out w1)).mono ?_; rintro e w2 ⟨⟨r, cr, r2, cr2, rfl, ir, ir2⟩, hb⟩
  have HB2 := Lib.hid (bcall (balloc HB1.out _) hb)
  clear RG LW HB1 hb ir ir2
  go_wp2_with fail
  go_ret
  exact ⟨by first | rfl | simp, HB2.out⟩
theorem law_other (a b : Nat) (w : World) (ha : a ≤ 1000) (hb : b ≤ 1000) (h : ¬ a % 2 = b % 2) : Law (a : Int) (b : Int) w := by
  have hm : (sent 2 [(a : Int), (b : Int)]).length = 2 := by rw [sent_two]; simp [h]
  have hw : who 2 [(a : Int), (b : Int)] = [(a : Int) % 2, (b : Int) % 2] := by unfold who; rw [sent_two]; simp [h]
  have hs : Retry.slots 2 [(a : Int), (b : Int)] = [1, 2] := by unfold Retry.slots; rw [sent_two]; simp [h]
  have wa : (Lit.int .i64 (a : Int)).wf = true := by simp [Lit.wf, IntKind.min, IntKind.max, IntKind.signed, IntKind.bits]; omega
  have wb : (Lit.int .i64 (b : Int)).wf = true := by simp [Lit.wf, IntKind.min, IntKind.max, IntKind.signed, IntKind.bits]; omega
  have LW := Lib.hid (fun W => lit_ints W [(a : Int), (b : Int)] (by intro z hz; rcases List.mem_cons.1 hz with rfl | hz; exact wa; rw [List.mem_singleton.1 hz]; exact wb) (show 2 ≤ 700 by decide))
  have g : Retry.Good 2 [(a : Int), (b : Int)] := ⟨by decide, by decide, by simp, fun k hk => by
    have hk2 : k < 2 := hk
    rcases k with _|_|k
    · simp; omega
    · simp; omega
    · omega⟩
  have RG := Lib.hid (fun W p c (hW : Ints W p c [(a : Int), (b : Int)]) => run_good 2 p c 2 [(a : Int), (b : Int)] W rfl hW g 2 hm)
  rw [hw, hs, show ((2 : Nat) : Int) = 2 from rfl] at RG
  have t0 : ((a : Int) % 2 == (b : Int) % 2) = false := beq_eq_false_iff_ne.2 (by omega)
  have A1 := Lib.hid (fun W => lit_ints W [(a : Int) % 2, (b : Int) % 2] (by
    intro z hz
    have : 0 ≤ z ∧ z ≤ 1 := by
      rcases List.mem_cons.1 hz with rfl | hz
      · omega
      · rw [List.mem_singleton.1 hz]; omega
    simp [Lit.wf, IntKind.min, IntKind.max, IntKind.signed, IntKind.bits]; omega) (show 2 ≤ 700 by decide))
  have A2 := Lib.hid (fun W => lit_ints W [1, 2] (by decide) (by decide))
  have S1 := Lib.hid (fun W pu cu (hW : Ints W pu cu [(a : Int) % 2, (b : Int) % 2]) q (hq : Ints W q 2 [(a : Int) % 2, (b : Int) % 2]) => ints_any pu q cu 2 2 2 [(a : Int) % 2, (b : Int) % 2] [(a : Int) % 2, (b : Int) % 2] W rfl rfl hW hq true (by simp))
  have S2 := Lib.hid (fun W pu cu (hW : Ints W pu cu [1, 2]) q (hq : Ints W q 2 [1, 2]) => ints_any pu q cu 2 2 2 [1, 2] [1, 2] W rfl rfl hW hq true (by decide))
  clear hm hw hs wa wb g h
  have FA := Lib.hid (Retry.fact_any w)
  unfold Law
  go_enter Try.func6, Try.ntmps6
  go_wp2_with fail
  refine FA.out.mono ?_; rintro e w1 ⟨rfl, hb1⟩
  have HB1 := Lib.hid hb1
  clear FA hb1
  go_wp2_with fail
  refine (RG.out _ _ _ (LW.out w1)).mono ?_; rintro e w2 ⟨⟨r, cr, r2, cr2, rfl, ir, ir2⟩, hb⟩
  have HB2 := Lib.hid (bcall (balloc HB1.out _) hb)
  have IR := Lib.hid ir
  have IR2 := Lib.hid ir2
  clear RG LW HB1 hb ir ir2
  go_wp2_with fail
  refine (S1.out _ r cr (IR.out.below (balloc (brefl w2) _)) _ (A1.out w2)).mono ?_; rintro e w3 ⟨rfl, hb⟩
  have HB3 := Lib.hid (bcall (balloc HB2.out _) hb)
  have IT2 := Lib.hid ((IR2.out.below (balloc (brefl w2) _)).below hb)
  clear hb IR IR2 HB2 S1
  go_wp2_with fail
  refine (S2.out _ r2 cr2 (IT2.out.below (balloc (brefl w3) _)) _ (A2.out w3)).mono ?_; rintro e w4 ⟨rfl, hb⟩
  have HB4 := Lib.hid (bcall (balloc HB3.out _) hb)
  clear hb IT2 HB3 S2
  go_wp2_with fail
  go_ret
  exact ⟨by first | rfl | simp, HB4.out⟩
theorem law_any (x y : Int) (w : World) (wx : (Lit.int .i64 x).wf = true) (wy : (Lit.int .i64 y).wf = true) : Law x y w := by
  by_cases h : 0 ≤ x ∧ x ≤ 1000 ∧ 0 ≤ y ∧ y ≤ 1000
  · obtain ⟨a, rfl⟩ : ∃ a : Nat, x = (a : Int) := ⟨x.toNat, by omega⟩
    obtain ⟨b, rfl⟩ : ∃ b : Nat, y = (b : Int) := ⟨y.toNat, by omega⟩
    by_cases h2 : a % 2 = b % 2
    · exact law_same a b w (by omega) (by omega) h2
    · exact law_other a b w (by omega) (by omega) h2
  · exact law_bad x y w wx wy h

theorem reads : Try.f6.params.toList.all (fun t => Try.prog.readableRec t && decide (t < Try.prog.types.size)) = true := by kernel_rfl

theorem contract (H : Type) (enc : TypeId × Value → H) (W : World) (base : Nat) (args : Array Value) (ds gs : List (DataW H)) (before : List MemPlace)
    (hval : ∀ (j : Nat) t v, Try.f6.params[j]? = some t → args[j]? = some v → Value.okWide Try.prog W .any base t v)
    (hW : DataW.Whole enc Try.prog Try.f6.params.toList Rows.retryTwoSpec.vars false W args.toList ds gs before) :
    Calls Try.prog 6 args W fun e W' => ∃ v, e = .returned v ∧ Rows.retryTwoSpec.post enc Try.prog Try.f6 false true false false W args v W' := by
  have hW' := hW
  obtain ⟨p, q, hA0, hV, rfl, hfz, hnd⟩ := hW
  have hA : DataW.TrodAll enc Try.prog W 0 (fun _ => true) true Try.f6.params.toList args.toList ds p := hA0
  have hlt := hA.lt
  rw [Try.params6] at hA hval
  obtain ⟨v0, vs0, d0, ds0, p0, q0, hargs, rfl, rfl, h0, r0⟩ := trodAll_cons hA
  obtain ⟨v1, vs1, d1, ds1, p1, q1, hvs1, rfl, rfl, h1, r1⟩ := trodAll_cons r0
  obtain ⟨hvsn, rfl, rfl⟩ := trodAll_nil r1
  simp only [hvsn, hvs1] at hargs
  obtain rfl : args = #[v0, v1] := by cases args; simp_all
  obtain ⟨rfl, rfl⟩ := trodVars_none hV
  clear hA0
  obtain ⟨a0, rfl, rfl, rfl, w0⟩ := open_int Try.underlying3 (hval 0 3 v0 rfl rfl) h0
  have b0 := bounds_int w0
  obtain ⟨a1, rfl, rfl, rfl, w1⟩ := open_int Try.underlying3 (hval 1 3 v1 rfl rfl) h1
  have b1 := bounds_int w1
  exact law_post 4 laid reads rfl Try.underlying4 rfl hW' ⟨rfl, rfl, rfl⟩ (law_any a0 a1 W w0 w1)

set_option maxRecDepth 100000 in
theorem lifted (os : Os) (started : os.Started) (H : Type) (enc : TypeId × Value → H) :
    ReturnsInHanded {} Try.checked os 6 .any (Rows.retryTwoSpec.pre6 enc Try.prog Try.f6 Rows.retryTwoRow.domain false) (Rows.retryTwoSpec.post enc Try.prog Try.f6 false true false false) := by
  refine returnsInHanded_of_change (C := Try.checked) own started (by kernel_rfl) Try.func6
    (ChangeSpec.witness6 (enc := enc) (C := Try.checked) false ⟨#[], #[.int .i64 0, .int .i64 0], []⟩ 8 (by kernel_rfl) (by kernel_rfl) (by kernel_rfl) (by kernel_rfl)) ?_
  intro W base args ds gs before hval hW _ _
  exact contract H enc W base args ds gs before hval hW

theorem proved : Rows.RetryTwoSaid :=
  OpenClaim.holds_of_wide 6 Try.f6 rfl rfl rfl rfl rfl rfl rfl ⟨rfl, rfl, rfl, rfl, rfl⟩ rfl rfl rfl rfl rfl (by kernel_rfl) Try.func6 (by kernel_rfl)
    (of_decide_eq_true (by kernel_rfl)) (by unfold Func.isWrapper; first | (rw [if_pos (by decide +kernel)]; kernel_rfl) | (rw [if_neg (by decide +kernel)]; exact ⟨rfl, rfl⟩))
    (fun os started H enc _ => lifted os started H enc)
end Go.Proofs.Yteggajhpjdidcaa.RetryTwoL
