/- RetryWindow: the contention window doubles up to its bound: for every input. No condition. -/
import Derived.Test.YteggajhpjdidcaaRetryFact
import Derived.Test.YteggajhpjdidcaaIn4
namespace Go.Proofs.Yteggajhpjdidcaa.RetryWindowL
open Go.ChangeShapes Go.WideShapes Go.ChangeAt Go.RowKit Go.Proofs.Yteggajhpjdidcaa.Kit Go.Proofs.Yteggajhpjdidcaa.App Go.Proofs.Yteggajhpjdidcaa.Err Go.Proofs.Yteggajhpjdidcaa.RetryMath Go.Proofs.Yteggajhpjdidcaa.Retry
set_option linter.unusedVariables false
set_option maxRecDepth 20000
set_option maxHeartbeats 4000000
abbrev Law (x : Int) (w : World) : Prop := Calls Try.prog 4 #[.int .i64 x] w fun e w' => e = .returned (.bool true) ∧ Below w.heap.size w w'
theorem law_bad (x : Int) (w : World) (h : ¬ (0 ≤ x ∧ x ≤ 200)) : Law x w := by
  have WB := Lib.hid (fun W => window_bad x W h)
  have IN := Lib.hid (fun W => Ring.in_any x 0 200 W false (in_false h))
  rw [er_ne (by decide)] at WB
  clear h
  have FA := Lib.hid (Retry.fact_any w)
  unfold Law
  go_enter Try.func4, Try.ntmps4
  go_wp2_with fail
  refine FA.out.mono ?_; rintro e w1 ⟨rfl, hb1⟩
  have HB1 := Lib.hid hb1
  clear FA hb1
  go_wp2_with fail
  refine (WB.out w1).mono ?_; rintro e w2 ⟨rfl, hb⟩
  have HB2 := Lib.hid (bcall HB1.out hb)
  clear WB HB1 hb
  go_wp2_with fail
  refine (IN.out w2).mono ?_; rintro e w3 ⟨rfl, hw3⟩
  rw [hw3]
  clear hw3 w3
  go_wp2_with fail
  go_ret
  exact ⟨by first | rfl | simp, HB2.out⟩
theorem law_top (w : World) : Law (200 : Int) w := by
  have WG := Lib.hid (fun W => window_good 200 W (by decide))
  rw [show ((room 200 : Nat) : Int) = 1024 from rfl, show ((200 : Nat) : Int) = 200 from rfl] at WG
  have FA := Lib.hid (Retry.fact_any w)
  unfold Law
  go_enter Try.func4, Try.ntmps4
  go_wp2_with fail
  refine FA.out.mono ?_; rintro e w1 ⟨rfl, hb1⟩
  have HB1 := Lib.hid hb1
  clear FA hb1
  go_wp2_with fail
  refine (WG.out w1).mono ?_; rintro e w2 ⟨rfl, hb⟩
  have HB2 := Lib.hid (bcall HB1.out hb)
  clear WG HB1 hb
  go_wp2_with fail
  go_ret
  exact ⟨by first | rfl | simp, HB2.out⟩
theorem law_low (m : Nat) (w : World) (hm : m < 200) (h : m < 10) : Law (m : Int) w := by
  have WG := Lib.hid (fun W => window_good m W (by omega))
  have WH := Lib.hid (fun W => window_good (m + 1) W (by omega))
  have hr := room_le m
  have hp := room_pos m
  rw [room_next h, show ((2 * room m : Nat) : Int) = 2 * ((room m : Nat) : Int) from by omega] at WH
  have t1 : decide ((m : Int) < 10) = true := decide_eq_true (by omega)
  have t1n : decide (m < 10) = true := decide_eq_true h
  obtain ⟨r, hr0⟩ : ∃ r, room m = r := ⟨_, rfl⟩
  rw [hr0] at WG WH hr hp
  rw [show ((m + 1 : Nat) : Int) = (m : Int) + 1 from rfl] at WH
  have IN := Lib.hid (fun W => Ring.in_any (r : Int) 1 1024 W true (in_true ⟨by omega, by omega⟩))
  have t0 : ((m : Int) == 200) = false := beq_eq_false_iff_ne.2 (by omega)
  have t0n : (m == 200) = false := beq_eq_false_iff_ne.2 (by omega)
  clear hr0
  have FA := Lib.hid (Retry.fact_any w)
  unfold Law
  go_enter Try.func4, Try.ntmps4
  go_wp2_with fail
  refine FA.out.mono ?_; rintro e w1 ⟨rfl, hb1⟩
  have HB1 := Lib.hid hb1
  clear FA hb1
  go_wp2_with fail
  refine (WG.out w1).mono ?_; rintro e w2 ⟨rfl, hb⟩
  have HB2 := Lib.hid (bcall HB1.out hb)
  clear WG HB1 hb
  go_wp2_with fail
  refine (WH.out w2).mono ?_; rintro e w3 ⟨rfl, hb⟩
  have HB3 := Lib.hid (bcall HB2.out hb)
  clear WH HB2 hb
  go_wp2_with fail
  refine (IN.out w3).mono ?_; rintro e w4 ⟨rfl, hw4⟩
  rw [hw4]
  clear hw4 w4
  go_wp2_with fail
  go_ret
  exact ⟨by first | rfl | simp, HB3.out⟩
theorem law_high (m : Nat) (w : World) (hm : m < 200) (h : 10 ≤ m) : Law (m : Int) w := by
  have WG := Lib.hid (fun W => window_good m W (by omega))
  have WH := Lib.hid (fun W => window_good (m + 1) W (by omega))
  have hr := room_le m
  have hp := room_pos m
  rw [room_top (show 10 ≤ m + 1 by omega), ← room_top h] at WH
  have t1 : decide ((m : Int) < 10) = false := decide_eq_false (by omega)
  have t1n : decide (m < 10) = false := decide_eq_false (by omega)
  have t2 : decide ((m : Int) ≥ 10) = true := decide_eq_true (by omega)
  have t2n : decide (10 ≤ m) = true := decide_eq_true h
  obtain ⟨r, hr0⟩ : ∃ r, room m = r := ⟨_, rfl⟩
  rw [hr0] at WG WH hr hp
  rw [show ((m + 1 : Nat) : Int) = (m : Int) + 1 from rfl] at WH
  have IN := Lib.hid (fun W => Ring.in_any (r : Int) 1 1024 W true (in_true ⟨by omega, by omega⟩))
  have t0 : ((m : Int) == 200) = false := beq_eq_false_iff_ne.2 (by omega)
  have t0n : (m == 200) = false := beq_eq_false_iff_ne.2 (by omega)
  clear hr0
  have FA := Lib.hid (Retry.fact_any w)
  unfold Law
  go_enter Try.func4, Try.ntmps4
  go_wp2_with fail
  refine FA.out.mono ?_; rintro e w1 ⟨rfl, hb1⟩
  have HB1 := Lib.hid hb1
  clear FA hb1
  go_wp2_with fail
  refine (WG.out w1).mono ?_; rintro e w2 ⟨rfl, hb⟩
  have HB2 := Lib.hid (bcall HB1.out hb)
  clear WG HB1 hb
  go_wp2_with fail
  refine (WH.out w2).mono ?_; rintro e w3 ⟨rfl, hb⟩
  have HB3 := Lib.hid (bcall HB2.out hb)
  clear WH HB2 hb
  go_wp2_with fail
  refine (IN.out w3).mono ?_; rintro e w4 ⟨rfl, hw4⟩
  rw [hw4]
  clear hw4 w4
  go_wp2_with fail
  go_ret
  exact ⟨by first | rfl | simp, HB3.out⟩
theorem law_any (x : Int) (w : World) : Law x w := by
  by_cases h : 0 ≤ x ∧ x ≤ 200
  · obtain ⟨m, rfl⟩ : ∃ m : Nat, x = (m : Int) := ⟨x.toNat, by omega⟩
    by_cases h2 : m = 200
    · subst h2; exact law_top w
    · by_cases h3 : m < 10
      · exact law_low m w (by omega) h3
      · exact law_high m w (by omega) (by omega)
  · exact law_bad x w h

theorem reads : Try.f4.params.toList.all (fun t => Try.prog.readableRec t && decide (t < Try.prog.types.size)) = true := by kernel_rfl

theorem contract (H : Type) (enc : TypeId × Value → H) (W : World) (base : Nat) (args : Array Value) (ds gs : List (DataW H)) (before : List MemPlace)
    (hval : ∀ (j : Nat) t v, Try.f4.params[j]? = some t → args[j]? = some v → Value.okWide Try.prog W .any base t v)
    (hW : DataW.Whole enc Try.prog Try.f4.params.toList Rows.retryWindowSpec.vars false W args.toList ds gs before) :
    Calls Try.prog 4 args W fun e W' => ∃ v, e = .returned v ∧ Rows.retryWindowSpec.post enc Try.prog Try.f4 false true false false W args v W' := by
  have hW' := hW
  obtain ⟨p, q, hA0, hV, rfl, hfz, hnd⟩ := hW
  have hA : DataW.TrodAll enc Try.prog W 0 (fun _ => true) true Try.f4.params.toList args.toList ds p := hA0
  have hlt := hA.lt
  rw [Try.params4] at hA hval
  obtain ⟨v0, vs0, d0, ds0, p0, q0, hargs, rfl, rfl, h0, r0⟩ := trodAll_cons hA
  obtain ⟨hvsn, rfl, rfl⟩ := trodAll_nil r0
  simp only [hvsn] at hargs
  obtain rfl : args = #[v0] := by cases args; simp_all
  obtain ⟨rfl, rfl⟩ := trodVars_none hV
  clear hA0
  obtain ⟨a0, rfl, rfl, rfl, w0⟩ := open_int Try.underlying3 (hval 0 3 v0 rfl rfl) h0
  have b0 := bounds_int w0
  exact law_post 4 laid reads rfl Try.underlying4 rfl hW' ⟨rfl, rfl, rfl⟩ (law_any a0 W)

set_option maxRecDepth 100000 in
theorem lifted (os : Os) (started : os.Started) (H : Type) (enc : TypeId × Value → H) :
    ReturnsInHanded {} Try.checked os 4 .any (Rows.retryWindowSpec.pre6 enc Try.prog Try.f4 Rows.retryWindowRow.domain false) (Rows.retryWindowSpec.post enc Try.prog Try.f4 false true false false) := by
  refine returnsInHanded_of_change (C := Try.checked) own started (by kernel_rfl) Try.func4
    (ChangeSpec.witness6 (enc := enc) (C := Try.checked) false ⟨#[], #[.int .i64 0], []⟩ 8 (by kernel_rfl) (by kernel_rfl) (by kernel_rfl) (by kernel_rfl)) ?_
  intro W base args ds gs before hval hW _ _
  exact contract H enc W base args ds gs before hval hW

theorem proved : Rows.RetryWindowSaid :=
  OpenClaim.holds_of_wide 4 Try.f4 rfl rfl rfl rfl rfl rfl rfl ⟨rfl, rfl, rfl, rfl, rfl⟩ rfl rfl rfl rfl rfl (by kernel_rfl) Try.func4 (by kernel_rfl)
    (of_decide_eq_true (by kernel_rfl)) (by unfold Func.isWrapper; first | (rw [if_pos (by decide +kernel)]; kernel_rfl) | (rw [if_neg (by decide +kernel)]; exact ⟨rfl, rfl⟩))
    (fun os started H enc _ => lifted os started H enc)
end Go.Proofs.Yteggajhpjdidcaa.RetryWindowL
