/- Each timeout doubles the waiting time up to a bound, and the next measurement ends that: the law returns true for every input. No condition. -/
import Derived.Test.YtkkcfogfbabkfaaRttLaw
import Derived.Test.YtkkcfogfbabkfaaRttLeast
namespace Go.Proofs.Ytkkcfogfbabkfaa.RttLateL
open Go.ChangeShapes Go.WideShapes Go.ChangeAt Go.RowKit Go.Proofs.Ytkkcfogfbabkfaa.Kit Go.Proofs.Ytkkcfogfbabkfaa.App Go.Proofs.Ytkkcfogfbabkfaa.RttMath Go.Proofs.Ytkkcfogfbabkfaa.Rtt
set_option linter.unusedVariables false
set_option maxRecDepth 20000

abbrev Law (k late : Int) (w : World) : Prop := Calls Try.prog 6 #[.int .i64 k, .int .i64 late] w fun e w' => e = .returned (.bool true) ∧ Below w.heap.size w w'
theorem less_wait {k p p' W W' : Int} (hk : 0 ≤ k) (hk2 : k ≤ 100000) (hp : 0 ≤ p) (h1 : RttMath.wait k p = W) (h2 : RttMath.spread k p k = p') (h3 : RttMath.wait k p' = W') : W' ≤ W := by
  have e : p' ≤ p := by rw [← h2]; unfold spread dist; rw [if_neg (by omega), if_neg (by omega)]; omega
  rw [← h1, ← h3]
  unfold RttMath.wait cap more
  repeat' split
  all_goals omega
theorem same {k : Int} (hk : 0 ≤ k) : smooth k k = k := by unfold smooth; rw [if_neg (by omega)]; omega
set_option maxHeartbeats 1000000 in
theorem law_bad (k late : Int) (w : World) (hk : ¬ (0 ≤ k ∧ k ≤ 100000)) : Law k late w := by
  have IN := Lib.hid (fun W => in_any k 0 100000 W false (in_no hk))
  have TB := Lib.hid (fun g W => take_bad g k W hk)
  rw [er_1] at TB
  have FA := Lib.hid (fact_any w)
  have NW := Lib.hid (fun W => new_good 1 W (by omega) (by omega))
  unfold Law
  go_enter Try.func6, Try.ntmps6
  go_wp2_with fail
  refine FA.out.mono ?_; rintro e w1 ⟨rfl, hb1⟩
  clear FA
  go_wp2_with fail
  refine (NW.out w1).mono ?_; rintro e w2 ⟨rfl, hT2, hb2⟩
  have hB2 := bcall hb1 hb2
  have HG := Lib.hid hb1.size
  have HT2 := Lib.hid hT2
  clear hb1 hb2 hT2 NW
  generalize w1.heap.size = g at HT2 HG ⊢
  go_wp2_with fail
  refine (TB.out g _).mono ?_; rintro e w3 ⟨rfl, rfl⟩
  go_wp2_with fail
  refine (IN.out _).mono ?_; rintro e w4 ⟨rfl, rfl⟩
  go_wp2_with fail
  go_ret
  exact ⟨by first | rfl | simp, hB2⟩
set_option maxHeartbeats 1000000 in
theorem law_good (k late : Int) (w : World) (hk : 0 ≤ k ∧ k ≤ 100000) (hl : -9223372036854775808 ≤ late ∧ late ≤ 9223372036854775807) : Law k late w := by
  obtain ⟨p, hp1⟩ : ∃ p, spread (-1) 0 k = p := ⟨_, rfl⟩
  obtain ⟨W0, hW0⟩ : ∃ W, RttMath.wait k p = W := ⟨_, rfl⟩
  obtain ⟨p', hp2⟩ : ∃ p', RttMath.spread k p k = p' := ⟨_, rfl⟩
  obtain ⟨W', hW2⟩ : ∃ W', RttMath.wait k p' = W' := ⟨_, rfl⟩
  have hq : k.tdiv 2 = p := by rw [← hp1]; unfold spread; rw [if_pos rfl, Int.tdiv_eq_ediv_of_nonneg hk.1]
  have hp : 0 ≤ p ∧ p ≤ 100000 := by rw [← hp1]; unfold spread; rw [if_pos rfl]; omega
  have tz : decide (W' ≤ W0) = true := decide_eq_true (less_wait hk.1 hk.2 hp.1 hW0 hp2 hW2)
  have hO := ok_take (s := -1) (p := 0) (W := 1) (k := k) (ok_new (by omega) (by omega)) hk.1 hk.2
  have e0 : smooth (-1) k = k := by unfold smooth; rw [if_pos rfl]
  have TG := Lib.hid (fun g W hT => take_good g (-1) 0 1 k k p W0 W hT (ok_new (by omega) (by omega)) hk.1 hk.2 e0 hp1 hW0)
  rw [e0, hp1, hW0] at hO
  have hWb := hO.2
  have WT := Lib.hid (fun g s p W w hT => wait_any g s p W w hT)
  clear hp1 hW0 hO e0
  have FA := Lib.hid (fact_any w)
  have NW := Lib.hid (fun W => new_good 1 W (by omega) (by omega))
  unfold Law
  go_enter Try.func6, Try.ntmps6
  go_wp2_with fail
  refine FA.out.mono ?_; rintro e w1 ⟨rfl, hb1⟩
  clear FA
  go_wp2_with fail
  refine (NW.out w1).mono ?_; rintro e w2 ⟨rfl, hT2, hb2⟩
  have hB2 := bcall hb1 hb2
  have HG := Lib.hid hb1.size
  have HT2 := Lib.hid hT2
  clear hb1 hb2 hT2 NW
  generalize w1.heap.size = g at HT2 HG ⊢
  go_wp2_with fail
  refine (TG.out g _ HT2.out).mono ?_; rintro e w3 ⟨rfl, hT3, hg3⟩
  have hB3 := gbelow hB2 (Nat.le_refl _) hg3 HG.out
  have C1 := Lib.hid (WT.out g k p W0 w3 hT3)
  have HT3 := Lib.hid hT3
  clear hT3 hg3 hB2 HT2 TG
  go_wp2_with fail
  refine C1.out.mono ?_; rintro e w4 ⟨rfl, rfl⟩
  clear C1
  go_wp2_with fail
  go_loopw [9, 10] (fun v iv wr => ∃ j : Nat, iv = .int .i64 (j : Int) ∧ j ≤ 40 ∧ ∃ W, v = .int .i64 W ∧ (1 ≤ W ∧ W ≤ 100000) ∧ Hid (Tm wr g k p W) ∧ Below w.heap.size w wr) (fun _ i _ => 40 - (intOf i).toNat)
  case atStart => exact ⟨0, rfl, Nat.zero_le _, W0, rfl, hWb, HT3, hB3⟩
  case round =>
    obtain ⟨j, rfl, hj, W, rfl, hW, HT, hB⟩ := hrel
    clear HT3 hB3
    by_cases hjn : (j : Int) < late
    · have t1 : decide ((j : Int) < late) = true := decide_eq_true hjn
      by_cases hj40 : j < 40
      · have t2 : decide ((j : Int) < 40) = true := decide_eq_true (by omega)
        obtain ⟨W1, hW1⟩ : ∃ W1, cap (2 * W) = W1 := ⟨_, rfl⟩
        have hb1 : 1 ≤ W1 ∧ W1 ≤ 100000 := by rw [← hW1]; unfold cap; split <;> omega
        have C1 := Lib.hid (late_any g k p W W1 wr HT.out (by omega) hW.2 hW1)
        have LE := Lib.hid (fun w => least_any (2 * W) 100000 w W1 (by rw [← hW1]; unfold cap; split <;> split <;> omega))
        clear HT hW1
        go_wp2_with fail
        refine C1.out.mono ?_; rintro e w5 ⟨rfl, hT5, hg5⟩
        have hB5 := gbelow hB (Nat.le_refl _) hg5 HG.out
        have C2 := Lib.hid (WT.out g k p W1 w5 hT5)
        have HT5 := Lib.hid hT5
        clear C1 hg5 hB hT5
        go_wp2_with fail
        refine (LE.out _).mono ?_; rintro e w6 ⟨rfl, rfl⟩
        go_wp2_with fail
        refine C2.out.mono ?_; rintro e w7 ⟨rfl, rfl⟩
        go_wp2_with fail
        go_roundw
        case rel => exact ⟨j + 1, by first | rfl | go_num, by omega, W1, rfl, hb1, HT5, hB5⟩
        case measure => simp [intOf]; omega
      · have t2 : decide ((j : Int) < 40) = false := decide_eq_false (by omega)
        have HB := Lib.hid hB
        have C1 := Lib.hid (guess_any g k p W wr HT.out)
        go_wp2_with fail
        refine C1.out.mono ?_; rintro e w3 ⟨rfl, m3, rfl⟩
        have hB3 := bdrewN hB m3
        have C2 := Lib.hid (take_good g k p W k k p' W' (wr.drewN m3) (HT.out.drewN m3) ⟨.inr ⟨hk.1, hk.2, hp.1, hp.2⟩, hW.1, hW.2⟩ hk.1 hk.2 (same hk.1) hp2 hW2)
        clear C1 HT hB
        go_wp2_with fail
        refine C2.out.mono ?_; rintro e w4 ⟨rfl, hT4, hg4⟩
        have hB4 := gbelow hB3 (Nat.le_refl _) hg4 HG.out
        have C3 := Lib.hid (wait_any g k p' W' w4 hT4)
        clear C2 hT4 hg4 hB3
        go_wp2_with fail
        refine C3.out.mono ?_; rintro e w5 ⟨rfl, rfl⟩
        go_wp2_with fail
        go_ret
        exact ⟨by first | rfl | simp, hB4⟩
    · have t1 : decide ((j : Int) < late) = false := decide_eq_false hjn
      have HB := Lib.hid hB
      have C1 := Lib.hid (guess_any g k p W wr HT.out)
      go_wp2_with fail
      refine C1.out.mono ?_; rintro e w3 ⟨rfl, m3, rfl⟩
      have hB3 := bdrewN hB m3
      have C2 := Lib.hid (take_good g k p W k k p' W' (wr.drewN m3) (HT.out.drewN m3) ⟨.inr ⟨hk.1, hk.2, hp.1, hp.2⟩, hW.1, hW.2⟩ hk.1 hk.2 (same hk.1) hp2 hW2)
      clear C1 HT hB
      go_wp2_with fail
      refine C2.out.mono ?_; rintro e w4 ⟨rfl, hT4, hg4⟩
      have hB4 := gbelow hB3 (Nat.le_refl _) hg4 HG.out
      have C3 := Lib.hid (wait_any g k p' W' w4 hT4)
      clear C2 hT4 hg4 hB3
      go_wp2_with fail
      refine C3.out.mono ?_; rintro e w5 ⟨rfl, rfl⟩
      go_wp2_with fail
      go_ret
      exact ⟨by first | rfl | simp, hB4⟩

theorem reads : Try.f6.params.toList.all (fun t => Try.prog.readableRec t && decide (t < Try.prog.types.size)) = true := by kernel_rfl

theorem contract (H : Type) (enc : TypeId × Value → H) (W : World) (base : Nat) (args : Array Value) (ds gs : List (DataW H)) (before : List MemPlace)
    (hval : ∀ (j : Nat) t v, Try.f6.params[j]? = some t → args[j]? = some v → Value.okWide Try.prog W .any base t v)
    (hW : DataW.Whole enc Try.prog Try.f6.params.toList Rows.rttLateSpec.vars false W args.toList ds gs before) :
    Calls Try.prog 6 args W fun e W' => ∃ v, e = .returned v ∧ Rows.rttLateSpec.post enc Try.prog Try.f6 false true false false W args v W' := by
  have hW' := hW
  obtain ⟨p, q, hA0, hV, rfl, hfz, hnd⟩ := hW
  have hA : DataW.TrodAll enc Try.prog W 0 (fun _ => true) true Try.f6.params.toList args.toList ds p := hA0
  have hlt := hA.lt
  rw [Try.params6] at hA hval
  obtain ⟨v0, vs0, d0, ds0, p0, q0, hargs, rfl, rfl, h0, r0⟩ := trodAll_cons hA
  obtain ⟨v1, vs1, d1, ds1, p1, q1, hvs1, rfl, rfl, h1, r1⟩ := trodAll_cons r0
  obtain ⟨hvsn, rfl, rfl⟩ := trodAll_nil r1
  simp only [hvsn, hvs1] at hargs
  obtain rfl : args = #[v0, v1] := by cases args; simp_all
  obtain ⟨rfl, rfl⟩ := trodVars_none hV
  clear hA0
  obtain ⟨a0, rfl, rfl, rfl, w0⟩ := open_int Try.underlying3 (hval 0 3 v0 rfl rfl) h0
  have b0 := bounds_int w0
  obtain ⟨a1, rfl, rfl, rfl, w1⟩ := open_int Try.underlying3 (hval 1 3 v1 rfl rfl) h1
  have b1 := bounds_int w1
  exact law_post 4 laid reads rfl Try.underlying4 rfl hW' ⟨rfl, rfl, rfl⟩ (by
    by_cases h : 0 ≤ a0 ∧ a0 ≤ 100000
    · exact law_good a0 a1 W h b1
    · exact law_bad a0 a1 W h)

set_option maxRecDepth 100000 in
theorem lifted (os : Os) (started : os.Started) (H : Type) (enc : TypeId × Value → H) :
    ReturnsInHanded {} Try.checked os 6 .any (Rows.rttLateSpec.pre6 enc Try.prog Try.f6 Rows.rttLateRow.domain false) (Rows.rttLateSpec.post enc Try.prog Try.f6 false true false false) := by
  refine returnsInHanded_of_change (C := Try.checked) own started (by kernel_rfl) Try.func6
    (ChangeSpec.witness6 (enc := enc) (C := Try.checked) false ⟨#[], #[.int .i64 0, .int .i64 0], []⟩ 8 (by kernel_rfl) (by kernel_rfl) (by kernel_rfl) (by kernel_rfl)) ?_
  intro W base args ds gs before hval hW _ _
  exact contract H enc W base args ds gs before hval hW

theorem proved : Rows.RttLateSaid :=
  OpenClaim.holds_of_wide 6 Try.f6 rfl rfl rfl rfl rfl rfl rfl ⟨rfl, rfl, rfl, rfl, rfl⟩ rfl rfl rfl rfl rfl (by kernel_rfl) Try.func6 (by kernel_rfl)
    (of_decide_eq_true (by kernel_rfl)) (by unfold Func.isWrapper; first | (rw [if_pos (by decide +kernel)]; kernel_rfl) | (rw [if_neg (by decide +kernel)]; exact ⟨rfl, rfl⟩))
    (fun os started H enc _ => lifted os started H enc)
end Go.Proofs.Ytkkcfogfbabkfaa.RttLateL
