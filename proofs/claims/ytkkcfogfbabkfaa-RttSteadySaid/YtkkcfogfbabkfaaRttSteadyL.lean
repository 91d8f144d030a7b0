/- Constant measurements yield this estimate from the first on, and a vanishing variation: the law returns true for every input. No condition. -/
import Derived.Test.YtkkcfogfbabkfaaRttLaw
import Derived.Test.YtkkcfogfbabkfaaRttLeast
namespace Go.Proofs.Ytkkcfogfbabkfaa.RttSteadyL
open Go.ChangeShapes Go.WideShapes Go.ChangeAt Go.RowKit Go.Proofs.Ytkkcfogfbabkfaa.Kit Go.Proofs.Ytkkcfogfbabkfaa.App Go.Proofs.Ytkkcfogfbabkfaa.RttMath Go.Proofs.Ytkkcfogfbabkfaa.Rtt
set_option linter.unusedVariables false
set_option maxRecDepth 20000

abbrev Law (k m : Int) (w : World) : Prop := Calls Try.prog 5 #[.int .i64 k, .int .i64 m] w fun e w' => e = .returned (.bool true) ∧ Below w.heap.size w w'
def U : Nat → Int
  | 0 => 50000
  | k + 1 => 3 * U k / 4
theorem U_end (d : Nat) : U (59 + d) = 0 := by
  induction d with
  | zero => decide +kernel
  | succ d ih => show 3 * U (59 + d) / 4 = 0; rw [ih]; rfl
/-- How it stands before round j: nothing measured; or k is the estimate, the variation has fallen. -/
def At (k : Int) (j : Nat) (s p W last : Int) : Prop := j = 0 ∧ s = -1 ∧ p = 0 ∧ last = k ∨ 0 < j ∧ s = k ∧ last = p ∧ p ≤ U (j - 1) ∧ W = RttMath.wait k p
theorem at_first {k p W last p' W' : Int} (h : At k 0 (-1) p W last) (hk : 0 ≤ k) (hk2 : k ≤ 100000) (hp : spread (-1) p k = p') (hW : RttMath.wait k p' = W') : At k 1 k p' W' p' ∧ p' ≤ k ∧ last = k := by
  rcases h with ⟨_, _, rfl, h3⟩ | ⟨h0, _⟩
  · have e : p' = k / 2 := by rw [← hp]; unfold spread; rw [if_pos rfl]
    refine ⟨.inr ⟨by omega, rfl, rfl, ?_, hW.symm⟩, by omega, h3⟩
    show p' ≤ 50000
    omega
  · omega
theorem at_next {k p W last p' W' : Int} {j : Nat} (h : At k j k p W last) (hj : 0 < j) (hk : 0 ≤ k) (hp0 : 0 ≤ p) (hp : spread k p k = p') (hW : RttMath.wait k p' = W') : At k (j + 1) k p' W' p' ∧ last = p ∧ (p = 0 ∧ p' = 0 ∨ 0 < p ∧ p' < p) := by
  rcases h with ⟨h0, _⟩ | ⟨_, _, h3, h4, h5⟩
  · omega
  · have e : p' = 3 * p / 4 := by rw [← hp]; unfold spread dist; rw [if_neg (by omega), if_neg (by omega)]; omega
    obtain ⟨i, rfl⟩ : ∃ i, j = i + 1 := ⟨j - 1, by omega⟩
    refine ⟨.inr ⟨by omega, rfl, rfl, ?_, hW.symm⟩, h3, by omega⟩
    rw [show i + 1 - 1 = i from rfl] at h4
    show p' ≤ 3 * U i / 4
    omega
theorem at_end {k s p W last : Int} {j : Nat} (h : At k j s p W last) (hj : 60 ≤ j) (hp : 0 ≤ p) : last = 0 ∧ W = (if k + 1 < 100000 then k + 1 else 100000) := by
  rcases h with ⟨h0, _⟩ | ⟨_, _, h3, h4, h5⟩
  · omega
  · obtain ⟨d, hd⟩ : ∃ d, j - 1 = 59 + d := ⟨j - 60, by omega⟩
    rw [hd, U_end] at h4
    obtain rfl : p = 0 := by omega
    refine ⟨h3, ?_⟩
    rw [h5]
    unfold RttMath.wait more cap
    repeat' split
    all_goals omega
theorem ok_of {k s p W last : Int} {j : Nat} (h : At k j s p W last) (hO : Ok s p W) : 0 ≤ p := by
  rcases hO.1 with ⟨_, h⟩ | ⟨_, _, h, _⟩ <;> omega
theorem same {k : Int} (hk : 0 ≤ k) : smooth k k = k := by unfold smooth; rw [if_neg (by omega)]; omega
theorem in_many {m : Int} (R : Bool) (h : R = true ↔ 1 ≤ m ∧ m ≤ 90) : R = (decide ((1 : Int) ≤ m) && decide (m ≤ 90)) := by
  cases R
  · symm
    rw [Bool.and_eq_false_iff, decide_eq_false_iff_not, decide_eq_false_iff_not]
    have : ¬ (1 ≤ m ∧ m ≤ 90) := fun x => by simpa using h.2 x
    omega
  · have := h.1 rfl
    simp; omega
set_option maxHeartbeats 1000000 in
theorem law_bad (k m : Int) (w : World) (hk : ¬ (0 ≤ k ∧ k ≤ 100000)) : Law k m w := by
  have IN := Lib.hid (fun W => in_any k 0 100000 W false (in_no hk))
  have FA := Lib.hid (fact_any w)
  unfold Law
  go_enter Try.func5, Try.ntmps5
  go_wp2_with fail
  refine FA.out.mono ?_; rintro e w1 ⟨rfl, hb1⟩
  clear FA
  go_wp2_with fail
  refine (IN.out _).mono ?_; rintro e w2 ⟨rfl, rfl⟩
  go_wp2_with fail
  go_ret
  exact ⟨rfl, hb1⟩
set_option maxHeartbeats 1000000 in
theorem law_bad2 (k m : Int) (w : World) (hk : 0 ≤ k ∧ k ≤ 100000) (hm : ¬ (1 ≤ m ∧ m ≤ 90)) : Law k m w := by
  have IN := Lib.hid (fun W => in_any k 0 100000 W true (in_yes hk.1 hk.2))
  have IM := Lib.hid (fun W => in_any m 1 90 W false (in_many false (by simpa using hm)))
  have FA := Lib.hid (fact_any w)
  unfold Law
  go_enter Try.func5, Try.ntmps5
  go_wp2_with fail
  refine FA.out.mono ?_; rintro e w1 ⟨rfl, hb1⟩
  clear FA
  go_wp2_with fail
  refine (IN.out _).mono ?_; rintro e w2 ⟨rfl, rfl⟩
  go_wp2_with fail
  refine (IM.out _).mono ?_; rintro e w2 ⟨rfl, rfl⟩
  go_wp2_with fail
  go_ret
  exact ⟨rfl, hb1⟩
set_option maxHeartbeats 1000000 in
theorem law_good (k : Int) (n : Nat) (w : World) (hk : 0 ≤ k ∧ k ≤ 100000) (hn : 1 ≤ n ∧ n ≤ 90) : Law k (n : Int) w := by
  have IN := Lib.hid (fun W => in_any k 0 100000 W true (in_yes hk.1 hk.2))
  have IM := Lib.hid (fun W => in_any (n : Int) 1 90 W true (in_many true ⟨fun _ => by omega, fun _ => rfl⟩))
  have NW := Lib.hid (fun W => new_good 1 W (by omega) (by omega))
  have FA := Lib.hid (fact_any w)
  unfold Law
  go_enter Try.func5, Try.ntmps5
  go_wp2_with fail
  refine FA.out.mono ?_; rintro e w1 ⟨rfl, hb1⟩
  clear FA
  go_wp2_with fail
  refine (IN.out _).mono ?_; rintro e w1 ⟨rfl, rfl⟩
  go_wp2_with fail
  refine (IM.out _).mono ?_; rintro e w1 ⟨rfl, rfl⟩
  go_wp2_with fail
  refine (NW.out w1).mono ?_; rintro e w2 ⟨rfl, hT2, hb2⟩
  have hB2 := bcall hb1 hb2
  have HG := Lib.hid hb1.size
  have HT2 := Lib.hid hT2
  clear hb1 hb2 hT2 NW
  generalize w1.heap.size = g at HT2 HG ⊢
  go_wp2_with fail
  go_loopw [8, 9] (fun v iv wr => ∃ j : Nat, iv = .int .i64 (j : Int) ∧ j ≤ n ∧ ∃ s p W last, v = .int .i64 last ∧ Hid (At k j s p W last) ∧ Hid (Tm wr g s p W) ∧ Hid (Ok s p W) ∧ Below w.heap.size w wr) (fun _ i _ => n - (intOf i).toNat)
  case atStart => exact ⟨0, rfl, Nat.zero_le _, -1, 0, 1, k, rfl, Lib.hid (.inl ⟨rfl, rfl, rfl, rfl⟩), HT2, Lib.hid (ok_new (by omega) (by omega)), hB2⟩
  case round =>
    obtain ⟨j, rfl, hj, s, p, W, last, rfl, HA0, HT, HO, hB⟩ := hrel
    clear HT2 hB2
    have hp0 : 0 ≤ p := ok_of HA0.out HO.out
    by_cases hjn : j < n
    · have t1 : decide ((j : Int) < (n : Int)) = true := decide_eq_true (by omega)
      obtain ⟨p', hp1⟩ : ∃ p', spread s p k = p' := ⟨_, rfl⟩
      obtain ⟨W', hW1⟩ : ∃ W', RttMath.wait k p' = W' := ⟨_, rfl⟩
      have HO' := Lib.hid (ok_take HO.out hk.1 hk.2)
      by_cases hj0 : j = 0
      · obtain ⟨rfl, rfl⟩ : s = -1 ∧ p = 0 := by
          rcases HA0.out with ⟨_, h1, h2, _⟩ | ⟨h, _⟩
          · exact ⟨h1, h2⟩
          · omega
        have C1 := Lib.hid (take_good g (-1) 0 W k k p' W' wr HT.out HO.out hk.1 hk.2 (by unfold smooth; rw [if_pos rfl]) hp1 hW1)
        rw [show smooth (-1) k = k by unfold smooth; rw [if_pos rfl], hp1, hW1] at HO'
        obtain ⟨hA, hle, rfl⟩ := at_first (by rw [← hj0]; exact HA0.out) hk.1 hk.2 hp1 hW1
        have HA := Lib.hid (show At last (j + 1) last p' W' p' by rw [hj0]; exact hA)
        have u1 : decide (last < p') = false := decide_eq_false (by omega)
        have u2 : decide (0 < (j : Int)) = false := decide_eq_false (by omega)
        have hj00 : ¬ 0 < j := by omega
        clear HT HO HA0 hA hp1 hW1 hj0
        go_wp2_with fail
        refine C1.out.mono ?_; rintro e w3 ⟨rfl, hT3, hg3⟩
        have hB3 := gbelow hB (Nat.le_refl _) hg3 HG.out
        have C2 := Lib.hid (guess_any g last p' W' w3 hT3)
        have HT3 := Lib.hid hT3
        clear C1 hg3 hB hT3
        go_wp2_with fail
        refine C2.out.mono ?_; rintro e w4 ⟨rfl, m4, rfl⟩
        have hB4 := bdrewN hB3 m4
        clear C2 hB3
        go_wp2_with fail
        go_roundw
        case rel => exact ⟨j + 1, by first | rfl | go_num, by omega, last, p', W', p', rfl, HA, HT3, HO', hB4⟩
        case measure => simp [intOf]; omega
      · obtain ⟨rfl, rfl⟩ : s = k ∧ last = p := by
          rcases HA0.out with ⟨h, _⟩ | ⟨_, h1, h2, _⟩
          · omega
          · exact ⟨h1, h2⟩
        have C1 := Lib.hid (take_good g s last W s s p' W' wr HT.out HO.out hk.1 hk.2 (same hk.1) hp1 hW1)
        rw [same hk.1, hp1, hW1] at HO'
        obtain ⟨hA, _, hle⟩ := at_next HA0.out (by omega) hk.1 hp0 hp1 hW1
        have HA := Lib.hid hA
        have u1 : decide (last < p') = false := decide_eq_false (by omega)
        have u2 : decide (0 < (j : Int)) = true := decide_eq_true (by omega)
        have hj00 : 0 < j := by omega
        by_cases hl0 : last = 0
        · have u3 : decide (last ≤ p') = true := decide_eq_true (by omega)
          have u4 : decide (0 < last) = false := decide_eq_false (by omega)
          clear HT HO HA0 hA hp1 hW1 hj0
          go_wp2_with fail
          refine C1.out.mono ?_; rintro e w3 ⟨rfl, hT3, hg3⟩
          have hB3 := gbelow hB (Nat.le_refl _) hg3 HG.out
          have C2 := Lib.hid (guess_any g s p' W' w3 hT3)
          have HT3 := Lib.hid hT3
          clear C1 hg3 hB hT3
          go_wp2_with fail
          refine C2.out.mono ?_; rintro e w4 ⟨rfl, m4, rfl⟩
          have hB4 := bdrewN hB3 m4
          clear C2 hB3
          go_wp2_with fail
          go_roundw
          case rel => exact ⟨j + 1, by first | rfl | go_num, by omega, s, p', W', p', rfl, HA, HT3, HO', hB4⟩
          case measure => simp [intOf]; omega
        · have u3 : decide (last ≤ p') = false := decide_eq_false (by omega)
          clear HT HO HA0 hA hp1 hW1 hj0
          go_wp2_with fail
          refine C1.out.mono ?_; rintro e w3 ⟨rfl, hT3, hg3⟩
          have hB3 := gbelow hB (Nat.le_refl _) hg3 HG.out
          have C2 := Lib.hid (guess_any g s p' W' w3 hT3)
          have HT3 := Lib.hid hT3
          clear C1 hg3 hB hT3
          go_wp2_with fail
          refine C2.out.mono ?_; rintro e w4 ⟨rfl, m4, rfl⟩
          have hB4 := bdrewN hB3 m4
          clear C2 hB3
          go_wp2_with fail
          go_roundw
          case rel => exact ⟨j + 1, by first | rfl | go_num, by omega, s, p', W', p', rfl, HA, HT3, HO', hB4⟩
          case measure => simp [intOf]; omega
    · have t1 : decide ((j : Int) < (n : Int)) = false := decide_eq_false (by omega)
      obtain rfl : j = n := by omega
      by_cases h60 : j < 60
      · have t2 : decide ((j : Int) < 60) = true := decide_eq_true (by omega)
        go_wp2_with fail
        go_ret
        exact ⟨rfl, hB⟩
      · have t2 : decide ((j : Int) < 60) = false := decide_eq_false (by omega)
        obtain ⟨rfl, hWe⟩ := at_end HA0.out (by omega) hp0
        have C1 := Lib.hid (wait_any g s p W wr HT.out)
        have LE := Lib.hid (fun w => least_any (k + 1) 100000 w W hWe.symm)
        clear hWe
        go_wp2_with fail
        refine C1.out.mono ?_; rintro e w5 ⟨rfl, rfl⟩
        go_wp2_with fail
        refine (LE.out _).mono ?_; rintro e w6 ⟨rfl, rfl⟩
        go_wp2_with fail
        go_ret
        exact ⟨by first | rfl | simp, hB⟩

theorem reads : Try.f5.params.toList.all (fun t => Try.prog.readableRec t && decide (t < Try.prog.types.size)) = true := by kernel_rfl

theorem contract (H : Type) (enc : TypeId × Value → H) (W : World) (base : Nat) (args : Array Value) (ds gs : List (DataW H)) (before : List MemPlace)
    (hval : ∀ (j : Nat) t v, Try.f5.params[j]? = some t → args[j]? = some v → Value.okWide Try.prog W .any base t v)
    (hW : DataW.Whole enc Try.prog Try.f5.params.toList Rows.rttSteadySpec.vars false W args.toList ds gs before) :
    Calls Try.prog 5 args W fun e W' => ∃ v, e = .returned v ∧ Rows.rttSteadySpec.post enc Try.prog Try.f5 false true false false W args v W' := by
  have hW' := hW
  obtain ⟨p, q, hA0, hV, rfl, hfz, hnd⟩ := hW
  have hA : DataW.TrodAll enc Try.prog W 0 (fun _ => true) true Try.f5.params.toList args.toList ds p := hA0
  have hlt := hA.lt
  rw [Try.params5] at hA hval
  obtain ⟨v0, vs0, d0, ds0, p0, q0, hargs, rfl, rfl, h0, r0⟩ := trodAll_cons hA
  obtain ⟨v1, vs1, d1, ds1, p1, q1, hvs1, rfl, rfl, h1, r1⟩ := trodAll_cons r0
  obtain ⟨hvsn, rfl, rfl⟩ := trodAll_nil r1
  simp only [hvsn, hvs1] at hargs
  obtain rfl : args = #[v0, v1] := by cases args; simp_all
  obtain ⟨rfl, rfl⟩ := trodVars_none hV
  clear hA0
  obtain ⟨a0, rfl, rfl, rfl, w0⟩ := open_int Try.underlying3 (hval 0 3 v0 rfl rfl) h0
  have b0 := bounds_int w0
  obtain ⟨a1, rfl, rfl, rfl, w1⟩ := open_int Try.underlying3 (hval 1 3 v1 rfl rfl) h1
  have b1 := bounds_int w1
  exact law_post 4 laid reads rfl Try.underlying4 rfl hW' ⟨rfl, rfl, rfl⟩ (by
    by_cases h : 0 ≤ a0 ∧ a0 ≤ 100000
    · by_cases h2 : 1 ≤ a1 ∧ a1 ≤ 90
      · obtain ⟨n, rfl⟩ : ∃ n : Nat, a1 = n := ⟨a1.toNat, by omega⟩
        exact law_good a0 n W h (by omega)
      · exact law_bad2 a0 a1 W h h2
    · exact law_bad a0 a1 W h)

set_option maxRecDepth 100000 in
theorem lifted (os : Os) (started : os.Started) (H : Type) (enc : TypeId × Value → H) :
    ReturnsInHanded {} Try.checked os 5 .any (Rows.rttSteadySpec.pre6 enc Try.prog Try.f5 Rows.rttSteadyRow.domain false) (Rows.rttSteadySpec.post enc Try.prog Try.f5 false true false false) := by
  refine returnsInHanded_of_change (C := Try.checked) own started (by kernel_rfl) Try.func5
    (ChangeSpec.witness6 (enc := enc) (C := Try.checked) false ⟨#[], #[.int .i64 0, .int .i64 0], []⟩ 8 (by kernel_rfl) (by kernel_rfl) (by kernel_rfl) (by kernel_rfl)) ?_
  intro W base args ds gs before hval hW _ _
  exact contract H enc W base args ds gs before hval hW

theorem proved : Rows.RttSteadySaid :=
  OpenClaim.holds_of_wide 5 Try.f5 rfl rfl rfl rfl rfl rfl rfl ⟨rfl, rfl, rfl, rfl, rfl⟩ rfl rfl rfl rfl rfl (by kernel_rfl) Try.func5 (by kernel_rfl)
    (of_decide_eq_true (by kernel_rfl)) (by unfold Func.isWrapper; first | (rw [if_pos (by decide +kernel)]; kernel_rfl) | (rw [if_neg (by decide +kernel)]; exact ⟨rfl, rfl⟩))
    (fun os started H enc _ => lifted os started H enc)
end Go.Proofs.Ytkkcfogfbabkfaa.RttSteadyL
