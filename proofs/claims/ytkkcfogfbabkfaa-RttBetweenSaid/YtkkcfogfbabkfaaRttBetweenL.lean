/- The estimate stays between the smallest and the largest measurement, and the timeout exceeds it or is the greatest: the law returns true for every input. No condition. -/
import Derived.Test.YtkkcfogfbabkfaaRttLaw
import Derived.Test.YtkkcfogfbabkfaaRttLeast
namespace Go.Proofs.Ytkkcfogfbabkfaa.RttBetweenL
open Go.ChangeShapes Go.WideShapes Go.ChangeAt Go.RowKit Go.Proofs.Ytkkcfogfbabkfaa.Kit Go.Proofs.Ytkkcfogfbabkfaa.App Go.Proofs.Ytkkcfogfbabkfaa.RttMath Go.Proofs.Ytkkcfogfbabkfaa.Rtt
set_option linter.unusedVariables false
set_option maxRecDepth 20000

abbrev Law (p : Option Addr) (cap n : Nat) (w : World) : Prop := Calls Try.prog 3 #[.slice p n cap] w fun e w' => e = .returned (.bool true) ∧ Below w.heap.size w w'
/-- Nothing measured; or the estimate lies between the smallest and the largest measurement. -/
def Fit (sm : Bool) (low high s p W : Int) : Prop := sm = false ∧ s = -1 ∧ p = 0 ∧ low = 100000 ∧ high = 0 ∧ W = 1 ∨ sm = true ∧ 0 ≤ low ∧ low ≤ s ∧ s ≤ high ∧ high ≤ 100000 ∧ 0 ≤ p ∧ p ≤ high
theorem fit_take {sm : Bool} {low high s p W x s' p' W' L H : Int} (h : Fit sm low high s p W) (h1 : 0 ≤ x) (h2 : x ≤ 100000) (hs : smooth s x = s') (hp : spread s p x = p') (hW : RttMath.wait s' p' = W') (hL : (if x < low then x else low) = L) (hH : (if high < x then x else high) = H) : Fit true L H s' p' W' := by
  refine .inr ⟨rfl, ?_⟩
  rcases h with ⟨_, rfl, rfl, rfl, rfl, _⟩ | ⟨_, q1, q2, q3, q4, q5, q6⟩
  · rw [← hs, ← hp, ← hL, ← hH]
    unfold smooth spread
    rw [if_pos rfl, if_pos rfl]
    repeat' split
    all_goals omega
  · rw [← hs, ← hp, ← hL, ← hH]
    unfold smooth spread dist
    repeat' split
    all_goals omega
theorem fit_wait {L H s' p' W' : Int} (h : Fit true L H s' p' W') (hW : RttMath.wait s' p' = W') (h2 : W' ≤ s') : ¬ W' < 100000 := by
  rcases h with ⟨h, _⟩ | ⟨_, q1, q2, q3, q4, q5, q6⟩
  · simp at h
  · rw [← hW] at h2 ⊢
    unfold RttMath.wait cap more at *
    repeat' split at h2
    all_goals repeat' split
    all_goals omega
set_option maxHeartbeats 4000000 in
theorem core (p0 : Option Addr) (cap n : Nat) (l : List Int) (w : World) (hn : n = l.length) (hi : Ints w p0 cap l) : Law p0 cap n w := by
  have hcap := hi.len_le
  rw [← hn] at hcap
  have HI := Lib.hid hi
  have HN := Lib.hid hn
  clear hi hn
  have FA := Lib.hid (fact_any w)
  have NW := Lib.hid (fun W => new_good 1 W (by omega) (by omega))
  unfold Law
  go_enter Try.func3, Try.ntmps3
  go_wp2_with fail
  refine FA.out.mono ?_; rintro e w1 ⟨rfl, hb1⟩
  clear FA
  go_wp2_with fail
  refine (NW.out w1).mono ?_; rintro e w2 ⟨rfl, hT2, hb2⟩
  have hB2 := bcall hb1 hb2
  have HG := Lib.hid hb1.size
  have HT2 := Lib.hid hT2
  clear hb1 hb2 hT2 NW
  generalize w1.heap.size = g at HT2 HG ⊢
  go_wp2_with fail
  go_loopw [6, 7, 8, 9] (fun lv hv sv iv wr => ∃ (j : Nat) (sm : Bool) (low high : Int), lv = .int .i64 low ∧ hv = .int .i64 high ∧ sv = .bool sm ∧ iv = .int .i64 (j : Int) ∧ j ≤ n ∧ ∃ s p W, Hid (Fit sm low high s p W) ∧ Hid (Tm wr g s p W) ∧ Hid (Ok s p W) ∧ Below w.heap.size w wr) (fun _ _ _ i _ => n - (intOf i).toNat)
  case atStart => exact ⟨0, false, 100000, 0, rfl, rfl, rfl, rfl, Nat.zero_le _, -1, 0, 1, Lib.hid (.inl ⟨rfl, rfl, rfl, rfl, rfl, rfl⟩), HT2, Lib.hid (ok_new (by omega) (by omega)), hB2⟩
  case round =>
    obtain ⟨j, sm, low, high, rfl, rfl, rfl, rfl, hj, s, p, W, HF, HT, HO, hB⟩ := hrel
    clear HT2 hB2
    by_cases hjn : j < n
    · have t1 : decide ((j : Int) < (n : Int)) = true := decide_eq_true (by omega)
      by_cases hj60 : j < 60
      · have t2 : decide ((j : Int) < 60) = true := decide_eq_true (by omega)
        obtain ⟨b, off, rfl, hb, hcs⟩ := HI.out.2.2.2 (by rw [← HN.out]; omega)
        have hc := (hB.cell (p := ⟨b, off + j, none⟩) hb).trans (hcs j (by rw [← HN.out]; omega))
        have HC := Lib.hid hcs
        obtain ⟨x, hxe⟩ : ∃ x, l[j]?.getD 0 = x := ⟨_, rfl⟩
        rw [hxe] at hc
        have HX := Lib.hid hxe
        have HB := Lib.hid hB
        clear hcs hxe
        by_cases hx : 0 ≤ x ∧ x ≤ 100000
        · obtain ⟨s', hs⟩ : ∃ s', smooth s x = s' := ⟨_, rfl⟩
          obtain ⟨p', hp⟩ : ∃ p', spread s p x = p' := ⟨_, rfl⟩
          obtain ⟨W', hW⟩ : ∃ W', RttMath.wait s' p' = W' := ⟨_, rfl⟩
          obtain ⟨L, hL⟩ : ∃ L, (if x < low then x else low) = L := ⟨_, rfl⟩
          obtain ⟨H, hH⟩ : ∃ H, (if high < x then x else high) = H := ⟨_, rfl⟩
          have hF' := fit_take HF.out hx.1 hx.2 hs hp hW hL hH
          have HF' := Lib.hid hF'
          have HWW := Lib.hid (fit_wait hF' hW)
          have C1 := Lib.hid (take_good g s p W x s' p' W' wr HT.out HO.out hx.1 hx.2 hs hp hW)
          have HO' := Lib.hid (ok_take HO.out hx.1 hx.2)
          rw [hs, hp, hW] at HO'
          have hq := hF'.resolve_left (fun h => by simp at h)
          obtain ⟨_, q1, q2, q3, q4, q5, q6⟩ := hq
          have u1 : decide (s' < L) = false := decide_eq_false (by omega)
          have u2 : decide (H < s') = false := decide_eq_false (by omega)
          have u3 : decide (p' < 0) = false := decide_eq_false (by omega)
          have u4 : decide (H < p') = false := decide_eq_false (by omega)
          clear hF' hs hp hW
          by_cases hlo : x < low
          · by_cases hhi : high < x
            · have v1 : decide (x < low) = true := decide_eq_true hlo
              have v2 : decide (high < x) = true := decide_eq_true hhi
              rw [if_pos hlo] at hL
              rw [if_pos hhi] at hH
              subst hL
              subst hH
              clear hB HT HO HF
              go_wp2_with fail
              refine C1.out.mono ?_; rintro e w4 ⟨rfl, hT4, hg4⟩
              have hB4 := gbelow HB.out (Nat.le_refl _) hg4 HG.out
              have C2 := Lib.hid (guess_any g s' p' W' w4 hT4)
              have HT4 := Lib.hid hT4
              have hc4 := (hB4.cell (p := ⟨b, off + j, none⟩) hb).trans (HC.out j (by rw [← HN.out]; omega))
              rw [HX.out] at hc4
              clear C1 hg4 hT4
              go_wp2_with fail
              refine C2.out.mono ?_; rintro e w5 ⟨rfl, m4, rfl⟩
              have hB5 := bdrewN hB4 m4
              clear C2 hB4 hc4
              by_cases hw : W' ≤ s'
              · have u5 : decide (W' ≤ s') = true := decide_eq_true hw
                have u6 : decide (W' < 100000) = false := decide_eq_false (by have := HWW.out hw; omega)
                have C4 := Lib.hid (wait_any g s' p' W' (w4.drewN m4) (HT4.out.drewN m4))
                go_wp2_with fail
                refine C4.out.mono ?_; rintro e w5 ⟨rfl, rfl⟩
                go_wp2_with fail
                refine C4.out.mono ?_; rintro e w5 ⟨rfl, rfl⟩
                clear C4
                go_wp2_with fail
                go_roundw
                case rel => exact ⟨j + 1, true, x, x, rfl, rfl, rfl, by first | rfl | go_num, by omega, s', p', W', HF', HT4, HO', hB5⟩
                case measure => simp [intOf]; omega
              · have u5 : decide (W' ≤ s') = false := decide_eq_false hw
                have C4 := Lib.hid (wait_any g s' p' W' (w4.drewN m4) (HT4.out.drewN m4))
                go_wp2_with fail
                refine C4.out.mono ?_; rintro e w5 ⟨rfl, rfl⟩
                clear C4
                go_wp2_with fail
                go_roundw
                case rel => exact ⟨j + 1, true, x, x, rfl, rfl, rfl, by first | rfl | go_num, by omega, s', p', W', HF', HT4, HO', hB5⟩
                case measure => simp [intOf]; omega
            · have v1 : decide (x < low) = true := decide_eq_true hlo
              have v2 : decide (high < x) = false := decide_eq_false hhi
              rw [if_pos hlo] at hL
              rw [if_neg hhi] at hH
              subst hL
              subst hH
              clear hB HT HO HF
              go_wp2_with fail
              refine C1.out.mono ?_; rintro e w4 ⟨rfl, hT4, hg4⟩
              have hB4 := gbelow HB.out (Nat.le_refl _) hg4 HG.out
              have C2 := Lib.hid (guess_any g s' p' W' w4 hT4)
              have HT4 := Lib.hid hT4
              have hc4 := (hB4.cell (p := ⟨b, off + j, none⟩) hb).trans (HC.out j (by rw [← HN.out]; omega))
              rw [HX.out] at hc4
              clear C1 hg4 hT4
              go_wp2_with fail
              refine C2.out.mono ?_; rintro e w5 ⟨rfl, m4, rfl⟩
              have hB5 := bdrewN hB4 m4
              clear C2 hB4 hc4
              by_cases hw : W' ≤ s'
              · have u5 : decide (W' ≤ s') = true := decide_eq_true hw
                have u6 : decide (W' < 100000) = false := decide_eq_false (by have := HWW.out hw; omega)
                have C4 := Lib.hid (wait_any g s' p' W' (w4.drewN m4) (HT4.out.drewN m4))
                go_wp2_with fail
                refine C4.out.mono ?_; rintro e w5 ⟨rfl, rfl⟩
                go_wp2_with fail
                refine C4.out.mono ?_; rintro e w5 ⟨rfl, rfl⟩
                clear C4
                go_wp2_with fail
                go_roundw
                case rel => exact ⟨j + 1, true, x, high, rfl, rfl, rfl, by first | rfl | go_num, by omega, s', p', W', HF', HT4, HO', hB5⟩
                case measure => simp [intOf]; omega
              · have u5 : decide (W' ≤ s') = false := decide_eq_false hw
                have C4 := Lib.hid (wait_any g s' p' W' (w4.drewN m4) (HT4.out.drewN m4))
                go_wp2_with fail
                refine C4.out.mono ?_; rintro e w5 ⟨rfl, rfl⟩
                clear C4
                go_wp2_with fail
                go_roundw
                case rel => exact ⟨j + 1, true, x, high, rfl, rfl, rfl, by first | rfl | go_num, by omega, s', p', W', HF', HT4, HO', hB5⟩
                case measure => simp [intOf]; omega
          · by_cases hhi : high < x
            · have v1 : decide (x < low) = false := decide_eq_false hlo
              have v2 : decide (high < x) = true := decide_eq_true hhi
              rw [if_neg hlo] at hL
              rw [if_pos hhi] at hH
              subst hL
              subst hH
              clear hB HT HO HF
              go_wp2_with fail
              refine C1.out.mono ?_; rintro e w4 ⟨rfl, hT4, hg4⟩
              have hB4 := gbelow HB.out (Nat.le_refl _) hg4 HG.out
              have C2 := Lib.hid (guess_any g s' p' W' w4 hT4)
              have HT4 := Lib.hid hT4
              have hc4 := (hB4.cell (p := ⟨b, off + j, none⟩) hb).trans (HC.out j (by rw [← HN.out]; omega))
              rw [HX.out] at hc4
              clear C1 hg4 hT4
              go_wp2_with fail
              refine C2.out.mono ?_; rintro e w5 ⟨rfl, m4, rfl⟩
              have hB5 := bdrewN hB4 m4
              clear C2 hB4 hc4
              by_cases hw : W' ≤ s'
              · have u5 : decide (W' ≤ s') = true := decide_eq_true hw
                have u6 : decide (W' < 100000) = false := decide_eq_false (by have := HWW.out hw; omega)
                have C4 := Lib.hid (wait_any g s' p' W' (w4.drewN m4) (HT4.out.drewN m4))
                go_wp2_with fail
                refine C4.out.mono ?_; rintro e w5 ⟨rfl, rfl⟩
                go_wp2_with fail
                refine C4.out.mono ?_; rintro e w5 ⟨rfl, rfl⟩
                clear C4
                go_wp2_with fail
                go_roundw
                case rel => exact ⟨j + 1, true, low, x, rfl, rfl, rfl, by first | rfl | go_num, by omega, s', p', W', HF', HT4, HO', hB5⟩
                case measure => simp [intOf]; omega
              · have u5 : decide (W' ≤ s') = false := decide_eq_false hw
                have C4 := Lib.hid (wait_any g s' p' W' (w4.drewN m4) (HT4.out.drewN m4))
                go_wp2_with fail
                refine C4.out.mono ?_; rintro e w5 ⟨rfl, rfl⟩
                clear C4
                go_wp2_with fail
                go_roundw
                case rel => exact ⟨j + 1, true, low, x, rfl, rfl, rfl, by first | rfl | go_num, by omega, s', p', W', HF', HT4, HO', hB5⟩
                case measure => simp [intOf]; omega
            · have v1 : decide (x < low) = false := decide_eq_false hlo
              have v2 : decide (high < x) = false := decide_eq_false hhi
              rw [if_neg hlo] at hL
              rw [if_neg hhi] at hH
              subst hL
              subst hH
              clear hB HT HO HF
              go_wp2_with fail
              refine C1.out.mono ?_; rintro e w4 ⟨rfl, hT4, hg4⟩
              have hB4 := gbelow HB.out (Nat.le_refl _) hg4 HG.out
              have C2 := Lib.hid (guess_any g s' p' W' w4 hT4)
              have HT4 := Lib.hid hT4
              have hc4 := (hB4.cell (p := ⟨b, off + j, none⟩) hb).trans (HC.out j (by rw [← HN.out]; omega))
              rw [HX.out] at hc4
              clear C1 hg4 hT4
              go_wp2_with fail
              refine C2.out.mono ?_; rintro e w5 ⟨rfl, m4, rfl⟩
              have hB5 := bdrewN hB4 m4
              clear C2 hB4 hc4
              by_cases hw : W' ≤ s'
              · have u5 : decide (W' ≤ s') = true := decide_eq_true hw
                have u6 : decide (W' < 100000) = false := decide_eq_false (by have := HWW.out hw; omega)
                have C4 := Lib.hid (wait_any g s' p' W' (w4.drewN m4) (HT4.out.drewN m4))
                go_wp2_with fail
                refine C4.out.mono ?_; rintro e w5 ⟨rfl, rfl⟩
                go_wp2_with fail
                refine C4.out.mono ?_; rintro e w5 ⟨rfl, rfl⟩
                clear C4
                go_wp2_with fail
                go_roundw
                case rel => exact ⟨j + 1, true, low, high, rfl, rfl, rfl, by first | rfl | go_num, by omega, s', p', W', HF', HT4, HO', hB5⟩
                case measure => simp [intOf]; omega
              · have u5 : decide (W' ≤ s') = false := decide_eq_false hw
                have C4 := Lib.hid (wait_any g s' p' W' (w4.drewN m4) (HT4.out.drewN m4))
                go_wp2_with fail
                refine C4.out.mono ?_; rintro e w5 ⟨rfl, rfl⟩
                clear C4
                go_wp2_with fail
                go_roundw
                case rel => exact ⟨j + 1, true, low, high, rfl, rfl, rfl, by first | rfl | go_num, by omega, s', p', W', HF', HT4, HO', hB5⟩
                case measure => simp [intOf]; omega
        · have C1 := Lib.hid (take_bad g x wr hx)
          rw [er_1] at C1
          have IN := Lib.hid (fun W => in_any x 0 100000 W false (in_no hx))
          go_wp2_with fail
          refine C1.out.mono ?_; rintro e w3 ⟨rfl, rfl⟩
          clear C1
          go_wp2_with fail
          refine (IN.out _).mono ?_; rintro e w3 ⟨rfl, rfl⟩
          go_wp2_with fail
          go_roundw
          case rel => exact ⟨j + 1, sm, low, high, rfl, rfl, rfl, by first | rfl | go_num, by omega, s, p, W, HF, HT, HO, hB⟩
          case measure => simp [intOf]; omega
      · have t2 : decide ((j : Int) < 60) = false := decide_eq_false (by omega)
        have HB := Lib.hid hB
        have C1 := Lib.hid (guess_any g s p W wr HT.out)
        go_wp2_with fail
        refine C1.out.mono ?_; rintro e w3 ⟨rfl, m3, rfl⟩
        have hB3 := bdrewN hB m3
        cases sm with
        | false =>
          obtain ⟨rfl, rfl⟩ : s = -1 ∧ W = 1 := by
            rcases HF.out with ⟨_, h1, _, _, _, h2⟩ | ⟨h, _⟩
            · exact ⟨h1, h2⟩
            · simp at h
          have C2 := Lib.hid (wait_any g (-1) p 1 (wr.drewN m3) (HT.out.drewN m3))
          clear HF HT HO C1
          go_wp2_with fail
          refine C2.out.mono ?_; rintro e w5 ⟨rfl, rfl⟩
          go_wp2_with fail
          go_ret
          exact ⟨by first | rfl | simp, hB3⟩
        | true =>
          go_wp2_with fail
          go_ret
          exact ⟨by first | rfl | simp, hB3⟩
    · have t1 : decide ((j : Int) < (n : Int)) = false := decide_eq_false (by omega)
      have HB := Lib.hid hB
      have C1 := Lib.hid (guess_any g s p W wr HT.out)
      go_wp2_with fail
      refine C1.out.mono ?_; rintro e w3 ⟨rfl, m3, rfl⟩
      have hB3 := bdrewN hB m3
      cases sm with
      | false =>
        obtain ⟨rfl, rfl⟩ : s = -1 ∧ W = 1 := by
          rcases HF.out with ⟨_, h1, _, _, _, h2⟩ | ⟨h, _⟩
          · exact ⟨h1, h2⟩
          · simp at h
        have C2 := Lib.hid (wait_any g (-1) p 1 (wr.drewN m3) (HT.out.drewN m3))
        clear HF HT HO C1
        go_wp2_with fail
        refine C2.out.mono ?_; rintro e w5 ⟨rfl, rfl⟩
        go_wp2_with fail
        go_ret
        exact ⟨by first | rfl | simp, hB3⟩
      | true =>
        go_wp2_with fail
        go_ret
        exact ⟨by first | rfl | simp, hB3⟩

theorem reads : Try.f3.params.toList.all (fun t => Try.prog.readableRec t && decide (t < Try.prog.types.size)) = true := by kernel_rfl

theorem contract (H : Type) (enc : TypeId × Value → H) (W : World) (base : Nat) (args : Array Value) (ds gs : List (DataW H)) (before : List MemPlace)
    (hval : ∀ (j : Nat) t v, Try.f3.params[j]? = some t → args[j]? = some v → Value.okWide Try.prog W .any base t v)
    (hW : DataW.Whole enc Try.prog Try.f3.params.toList Rows.rttBetweenSpec.vars false W args.toList ds gs before) :
    Calls Try.prog 3 args W fun e W' => ∃ v, e = .returned v ∧ Rows.rttBetweenSpec.post enc Try.prog Try.f3 false true false false W args v W' := by
  have hW' := hW
  obtain ⟨p, q, hA0, hV, rfl, hfz, hnd⟩ := hW
  have hA : DataW.TrodAll enc Try.prog W 0 (fun _ => true) true Try.f3.params.toList args.toList ds p := hA0
  have hlt := hA.lt
  rw [Try.params3] at hA hval
  obtain ⟨v0, vs0, d0, ds0, p0, q0, hargs, rfl, rfl, h0, r0⟩ := trodAll_cons hA
  obtain ⟨hvsn, rfl, rfl⟩ := trodAll_nil r0
  simp only [hvsn] at hargs
  obtain rfl : args = #[v0] := by cases args; simp_all
  obtain ⟨rfl, rfl⟩ := trodVars_none hV
  clear hA0
  obtain ⟨p0a, cap0, l0, rfl, i0⟩ := open_intsl Try.underlying22 Try.underlying3 (by kernel_rfl) (hval 0 22 v0 rfl rfl) h0 (fun x hx => hlt x (by simp [hx]))
  exact law_post 4 laid reads rfl Try.underlying4 rfl hW' ⟨rfl, rfl, rfl⟩ (core p0a cap0 _ l0 W rfl i0)

set_option maxRecDepth 100000 in
theorem lifted (os : Os) (started : os.Started) (H : Type) (enc : TypeId × Value → H) :
    ReturnsInHanded {} Try.checked os 3 .any (Rows.rttBetweenSpec.pre6 enc Try.prog Try.f3 Rows.rttBetweenRow.domain false) (Rows.rttBetweenSpec.post enc Try.prog Try.f3 false true false false) := by
  refine returnsInHanded_of_change (C := Try.checked) own started (by kernel_rfl) Try.func3
    (ChangeSpec.witness6 (enc := enc) (C := Try.checked) false ⟨#[], #[.slice none 0 0], []⟩ 8 (by kernel_rfl) (by kernel_rfl) (by kernel_rfl) (by kernel_rfl)) ?_
  intro W base args ds gs before hval hW _ _
  exact contract H enc W base args ds gs before hval hW

theorem proved : Rows.RttBetweenSaid :=
  OpenClaim.holds_of_wide 3 Try.f3 rfl rfl rfl rfl rfl rfl rfl ⟨rfl, rfl, rfl, rfl, rfl⟩ rfl rfl rfl rfl rfl (by kernel_rfl) Try.func3 (by kernel_rfl)
    (of_decide_eq_true (by kernel_rfl)) (by unfold Func.isWrapper; first | (rw [if_pos (by decide +kernel)]; kernel_rfl) | (rw [if_neg (by decide +kernel)]; exact ⟨rfl, rfl⟩))
    (fun os started H enc _ => lifted os started H enc)
end Go.Proofs.Ytkkcfogfbabkfaa.RttBetweenL
