/- Each measurement moves the estimate towards it, an eighth of the way: the law returns true for every input. No condition. -/
import Derived.Test.YtkkcfogfbabkfaaRttLaw
import Derived.Test.YtkkcfogfbabkfaaRttLeast
namespace Go.Proofs.Ytkkcfogfbabkfaa.RttPullL
open Go.ChangeShapes Go.WideShapes Go.ChangeAt Go.RowKit Go.Proofs.Ytkkcfogfbabkfaa.Kit Go.Proofs.Ytkkcfogfbabkfaa.App Go.Proofs.Ytkkcfogfbabkfaa.RttMath Go.Proofs.Ytkkcfogfbabkfaa.Rtt
set_option linter.unusedVariables false
set_option maxRecDepth 20000

abbrev Law (p : Option Addr) (cap n : Nat) (k : Int) (w : World) : Prop := Calls Try.prog 4 #[.slice p n cap, .int .i64 k] w fun e w' => e = .returned (.bool true) ∧ Below w.heap.size w w'
theorem pull_up {s k s' : Int} (h : smooth s k = s') (h1 : 0 ≤ s) (h2 : s ≤ k) : s ≤ s' ∧ s' ≤ k ∧ 8 * (s' - s) ≤ k - s ∧ k - s - 8 < 8 * (s' - s) := by
  rw [← h]; unfold smooth; rw [if_neg (by omega)]; omega
theorem pull_down {s k s' : Int} (h : smooth s k = s') (h1 : 0 ≤ s) (h2 : 0 ≤ k) (h3 : k < s) : s' ≤ s ∧ k ≤ s' ∧ s - k ≤ 8 * (s - s') ∧ 8 * (s - s') < s - k + 8 := by
  rw [← h]; unfold smooth; rw [if_neg (by omega)]; omega
set_option maxHeartbeats 1000000 in
theorem core (p0 : Option Addr) (cap n : Nat) (l : List Int) (k : Int) (w : World) (hn : n = l.length) (hi : Ints w p0 cap l) (hk0 : -9223372036854775808 ≤ k ∧ k ≤ 9223372036854775807) : Law p0 cap n k w := by
  have hcap := hi.len_le
  rw [← hn] at hcap
  have HI := Lib.hid hi
  have HN := Lib.hid hn
  clear hi hn
  have FA := Lib.hid (fact_any w)
  have NW := Lib.hid (fun W => new_good 1 W (by omega) (by omega))
  unfold Law
  go_enter Try.func4, Try.ntmps4
  go_wp2_with fail
  refine FA.out.mono ?_; rintro e w1 ⟨rfl, hb1⟩
  clear FA
  go_wp2_with fail
  refine (NW.out w1).mono ?_; rintro e w2 ⟨rfl, hT2, hb2⟩
  have hB2 := bcall hb1 hb2
  have HG := Lib.hid hb1.size
  have HT2 := Lib.hid hT2
  clear hb1 hb2 hT2 NW
  generalize w1.heap.size = g at HT2 HG ⊢
  go_wp2_with fail
  go_loopw [8] (fun iv wr => ∃ j : Nat, iv = .int .i64 (j : Int) ∧ j ≤ n ∧ ∃ s p W, Hid (Tm wr g s p W) ∧ Hid (Ok s p W) ∧ Below w.heap.size w wr) (fun i _ => n - (intOf i).toNat)
  case atStart => exact ⟨0, rfl, Nat.zero_le _, -1, 0, 1, HT2, Lib.hid (ok_new (by omega) (by omega)), hB2⟩
  case round =>
    obtain ⟨j, rfl, hj, s, p, W, HT, HO, hB⟩ := hrel
    clear HT2 hB2
    by_cases hjn : j < n
    · have t1 : decide ((j : Int) < (n : Int)) = true := decide_eq_true (by omega)
      by_cases hj60 : j < 60
      · have t2 : decide ((j : Int) < 60) = true := decide_eq_true (by omega)
        obtain ⟨b, off, rfl, hb, hcs⟩ := HI.out.2.2.2 (by rw [← HN.out]; omega)
        have hc := (hB.cell (p := ⟨b, off + j, none⟩) hb).trans (hcs j (by rw [← HN.out]; omega))
        generalize l[j]?.getD 0 = x at hc
        clear hcs hb
        by_cases hx : 0 ≤ x ∧ x ≤ 100000
        · have C1 := Lib.hid (take_good g s p W x _ _ _ wr HT.out HO.out hx.1 hx.2 rfl rfl rfl)
          have HO' := Lib.hid (ok_take HO.out hx.1 hx.2)
          generalize RttMath.wait (smooth s x) (spread s p x) = W' at C1 HO'
          generalize spread s p x = p' at C1 HO'
          generalize smooth s x = s' at C1 HO'
          clear HT HO
          go_wp2_with fail
          refine C1.out.mono ?_; rintro e w3 ⟨rfl, hT3, hg3⟩
          have hB3 := gbelow hB (Nat.le_refl _) hg3 HG.out
          clear C1 hg3 hB hc
          go_wp2_with fail
          go_roundw
          case rel => exact ⟨j + 1, by first | rfl | go_num, by omega, s', p', W', Lib.hid hT3, HO', hB3⟩
          case measure => simp [intOf]; omega
        · have C1 := Lib.hid (take_bad g x wr hx)
          rw [er_1] at C1
          go_wp2_with fail
          refine C1.out.mono ?_; rintro e w3 ⟨rfl, rfl⟩
          clear C1 hc
          go_wp2_with fail
          go_roundw
          case rel => exact ⟨j + 1, by first | rfl | go_num, by omega, s, p, W, HT, HO, hB⟩
          case measure => simp [intOf]; omega
      · have t2 : decide ((j : Int) < 60) = false := decide_eq_false (by omega)
        have HB := Lib.hid hB
        have C1 := Lib.hid (guess_any g s p W wr HT.out)
        have HOs := Lib.hid HO.out
        go_wp2_with fail
        refine C1.out.mono ?_; rintro e w3 ⟨rfl, m3, rfl⟩
        have hB3 := bdrewN hB m3
        have HT3 := Lib.hid (HT.out.drewN m3)
        clear C1 hB HT
        by_cases hk : 0 ≤ k ∧ k ≤ 100000
        · obtain ⟨s', hs⟩ : ∃ s', smooth s k = s' := ⟨_, rfl⟩
          obtain ⟨p', hp⟩ : ∃ p', spread s p k = p' := ⟨_, rfl⟩
          obtain ⟨W', hW⟩ : ∃ W', RttMath.wait s' p' = W' := ⟨_, rfl⟩
          have C2 := Lib.hid (take_good g s p W k s' p' W' (wr.drewN m3) HT3.out HO.out hk.1 hk.2 hs hp hW)
          have hO' := ok_take HO.out hk.1 hk.2
          rw [hs, hp, hW] at hO'
          have hs0 : s' ≠ -1 := by rw [← hs]; exact taken HO.out hk.1
          obtain ⟨q1, q2, q3, q4⟩ := known hO' hs0
          clear hp hW hO' hs0
          go_wp2_with fail
          refine C2.out.mono ?_; rintro e w4 ⟨rfl, hT4, hg4⟩
          have hB4 := gbelow hB3 (Nat.le_refl _) hg4 HG.out
          have C3 := Lib.hid (guess_any g s' p' W' w4 hT4)
          clear C2 hT4 hg4 hB3
          go_wp2_with fail
          refine C3.out.mono ?_; rintro e w5 ⟨rfl, m5, rfl⟩
          have hB5 := bdrewN hB4 m5
          clear C3 hB4
          by_cases hs1 : s = -1
          · obtain rfl : s' = k := by rw [← hs]; unfold smooth; rw [if_pos hs1]
            have t1 : decide (s < 0) = true := decide_eq_true (by omega)
            clear hs
            go_wp2_with fail
            go_ret
            exact ⟨by first | rfl | simp, hB5⟩
          · obtain ⟨q5, q6, _, _⟩ := known HO.out hs1
            have t1 : decide (s < 0) = false := decide_eq_false (by omega)
            by_cases hsk : s ≤ k
            · have t2 : decide (s ≤ k) = true := decide_eq_true hsk
              obtain ⟨r1, r2, r3, r4⟩ := pull_up hs q5 hsk
              clear hs
              have u1 : decide (s ≤ s') = true := decide_eq_true r1
              have u2 : decide (s' ≤ k) = true := decide_eq_true r2
              have u3 : decide (8 * (s' - s) ≤ k - s) = true := decide_eq_true r3
              have u4 : decide (k - s - 8 < 8 * (s' - s)) = true := decide_eq_true r4
              go_wp2_with fail
              go_ret
              exact ⟨by first | rfl | simp, hB5⟩
            · have t2 : decide (s ≤ k) = false := decide_eq_false hsk
              obtain ⟨r1, r2, r3, r4⟩ := pull_down hs q5 hk.1 (by omega)
              clear hs
              have u1 : decide (s' ≤ s) = true := decide_eq_true r1
              have u2 : decide (k ≤ s') = true := decide_eq_true r2
              have u3 : decide (s - k ≤ 8 * (s - s')) = true := decide_eq_true r3
              have u4 : decide (8 * (s - s') < s - k + 8) = true := decide_eq_true r4
              go_wp2_with fail
              go_ret
              exact ⟨by first | rfl | simp, hB5⟩
        · have C2 := Lib.hid (take_bad g k (wr.drewN m3) hk)
          rw [er_1] at C2
          have C3 := Lib.hid (guess_any g s p W (wr.drewN m3) HT3.out)
          have IN := Lib.hid (fun W => in_any k 0 100000 W false (in_no hk))
          go_wp2_with fail
          refine C2.out.mono ?_; rintro e w4 ⟨rfl, rfl⟩
          go_wp2_with fail
          refine C3.out.mono ?_; rintro e w5 ⟨rfl, m5, rfl⟩
          have hB5 := bdrewN hB3 m5
          go_wp2_with fail
          refine (IN.out _).mono ?_; rintro e w6 ⟨rfl, rfl⟩
          go_wp2_with fail
          go_ret
          exact ⟨by first | rfl | simp, by first | exact hB5 | exact bdrewN HB.out _⟩
    · have t1 : decide ((j : Int) < (n : Int)) = false := decide_eq_false (by omega)
      have HB := Lib.hid hB
      have C1 := Lib.hid (guess_any g s p W wr HT.out)
      have HOs := Lib.hid HO.out
      go_wp2_with fail
      refine C1.out.mono ?_; rintro e w3 ⟨rfl, m3, rfl⟩
      have hB3 := bdrewN hB m3
      have HT3 := Lib.hid (HT.out.drewN m3)
      clear C1 hB HT
      by_cases hk : 0 ≤ k ∧ k ≤ 100000
      · obtain ⟨s', hs⟩ : ∃ s', smooth s k = s' := ⟨_, rfl⟩
        obtain ⟨p', hp⟩ : ∃ p', spread s p k = p' := ⟨_, rfl⟩
        obtain ⟨W', hW⟩ : ∃ W', RttMath.wait s' p' = W' := ⟨_, rfl⟩
        have C2 := Lib.hid (take_good g s p W k s' p' W' (wr.drewN m3) HT3.out HO.out hk.1 hk.2 hs hp hW)
        have hO' := ok_take HO.out hk.1 hk.2
        rw [hs, hp, hW] at hO'
        have hs0 : s' ≠ -1 := by rw [← hs]; exact taken HO.out hk.1
        obtain ⟨q1, q2, q3, q4⟩ := known hO' hs0
        clear hp hW hO' hs0
        go_wp2_with fail
        refine C2.out.mono ?_; rintro e w4 ⟨rfl, hT4, hg4⟩
        have hB4 := gbelow hB3 (Nat.le_refl _) hg4 HG.out
        have C3 := Lib.hid (guess_any g s' p' W' w4 hT4)
        clear C2 hT4 hg4 hB3
        go_wp2_with fail
        refine C3.out.mono ?_; rintro e w5 ⟨rfl, m5, rfl⟩
        have hB5 := bdrewN hB4 m5
        clear C3 hB4
        by_cases hs1 : s = -1
        · obtain rfl : s' = k := by rw [← hs]; unfold smooth; rw [if_pos hs1]
          have t1 : decide (s < 0) = true := decide_eq_true (by omega)
          clear hs
          go_wp2_with fail
          go_ret
          exact ⟨by first | rfl | simp, hB5⟩
        · obtain ⟨q5, q6, _, _⟩ := known HO.out hs1
          have t1 : decide (s < 0) = false := decide_eq_false (by omega)
          by_cases hsk : s ≤ k
          · have t2 : decide (s ≤ k) = true := decide_eq_true hsk
            obtain ⟨r1, r2, r3, r4⟩ := pull_up hs q5 hsk
            clear hs
            have u1 : decide (s ≤ s') = true := decide_eq_true r1
            have u2 : decide (s' ≤ k) = true := decide_eq_true r2
            have u3 : decide (8 * (s' - s) ≤ k - s) = true := decide_eq_true r3
            have u4 : decide (k - s - 8 < 8 * (s' - s)) = true := decide_eq_true r4
            go_wp2_with fail
            go_ret
            exact ⟨by first | rfl | simp, hB5⟩
          · have t2 : decide (s ≤ k) = false := decide_eq_false hsk
            obtain ⟨r1, r2, r3, r4⟩ := pull_down hs q5 hk.1 (by omega)
            clear hs
            have u1 : decide (s' ≤ s) = true := decide_eq_true r1
            have u2 : decide (k ≤ s') = true := decide_eq_true r2
            have u3 : decide (s - k ≤ 8 * (s - s')) = true := decide_eq_true r3
            have u4 : decide (8 * (s - s') < s - k + 8) = true := decide_eq_true r4
            go_wp2_with fail
            go_ret
            exact ⟨by first | rfl | simp, hB5⟩
      · have C2 := Lib.hid (take_bad g k (wr.drewN m3) hk)
        rw [er_1] at C2
        have C3 := Lib.hid (guess_any g s p W (wr.drewN m3) HT3.out)
        have IN := Lib.hid (fun W => in_any k 0 100000 W false (in_no hk))
        go_wp2_with fail
        refine C2.out.mono ?_; rintro e w4 ⟨rfl, rfl⟩
        go_wp2_with fail
        refine C3.out.mono ?_; rintro e w5 ⟨rfl, m5, rfl⟩
        have hB5 := bdrewN hB3 m5
        go_wp2_with fail
        refine (IN.out _).mono ?_; rintro e w6 ⟨rfl, rfl⟩
        go_wp2_with fail
        go_ret
        exact ⟨by first | rfl | simp, by first | exact hB5 | exact bdrewN HB.out _⟩

theorem reads : Try.f4.params.toList.all (fun t => Try.prog.readableRec t && decide (t < Try.prog.types.size)) = true := by kernel_rfl

theorem contract (H : Type) (enc : TypeId × Value → H) (W : World) (base : Nat) (args : Array Value) (ds gs : List (DataW H)) (before : List MemPlace)
    (hval : ∀ (j : Nat) t v, Try.f4.params[j]? = some t → args[j]? = some v → Value.okWide Try.prog W .any base t v)
    (hW : DataW.Whole enc Try.prog Try.f4.params.toList Rows.rttPullSpec.vars false W args.toList ds gs before) :
    Calls Try.prog 4 args W fun e W' => ∃ v, e = .returned v ∧ Rows.rttPullSpec.post enc Try.prog Try.f4 false true false false W args v W' := by
  have hW' := hW
  obtain ⟨p, q, hA0, hV, rfl, hfz, hnd⟩ := hW
  have hA : DataW.TrodAll enc Try.prog W 0 (fun _ => true) true Try.f4.params.toList args.toList ds p := hA0
  have hlt := hA.lt
  rw [Try.params4] at hA hval
  obtain ⟨v0, vs0, d0, ds0, p0, q0, hargs, rfl, rfl, h0, r0⟩ := trodAll_cons hA
  obtain ⟨v1, vs1, d1, ds1, p1, q1, hvs1, rfl, rfl, h1, r1⟩ := trodAll_cons r0
  obtain ⟨hvsn, rfl, rfl⟩ := trodAll_nil r1
  simp only [hvsn, hvs1] at hargs
  obtain rfl : args = #[v0, v1] := by cases args; simp_all
  obtain ⟨rfl, rfl⟩ := trodVars_none hV
  clear hA0
  obtain ⟨p0a, cap0, l0, rfl, i0⟩ := open_intsl Try.underlying22 Try.underlying3 (by kernel_rfl) (hval 0 22 v0 rfl rfl) h0 (fun x hx => hlt x (by simp [hx]))
  obtain ⟨a1, rfl, rfl, rfl, w1⟩ := open_int Try.underlying3 (hval 1 3 v1 rfl rfl) h1
  have b1 := bounds_int w1
  exact law_post 4 laid reads rfl Try.underlying4 rfl hW' ⟨rfl, rfl, rfl⟩ (core p0a cap0 _ l0 a1 W rfl i0 b1)

set_option maxRecDepth 100000 in
theorem lifted (os : Os) (started : os.Started) (H : Type) (enc : TypeId × Value → H) :
    ReturnsInHanded {} Try.checked os 4 .any (Rows.rttPullSpec.pre6 enc Try.prog Try.f4 Rows.rttPullRow.domain false) (Rows.rttPullSpec.post enc Try.prog Try.f4 false true false false) := by
  refine returnsInHanded_of_change (C := Try.checked) own started (by kernel_rfl) Try.func4
    (ChangeSpec.witness6 (enc := enc) (C := Try.checked) false ⟨#[], #[.slice none 0 0, .int .i64 0], []⟩ 8 (by kernel_rfl) (by kernel_rfl) (by kernel_rfl) (by kernel_rfl)) ?_
  intro W base args ds gs before hval hW _ _
  exact contract H enc W base args ds gs before hval hW

theorem proved : Rows.RttPullSaid :=
  OpenClaim.holds_of_wide 4 Try.f4 rfl rfl rfl rfl rfl rfl rfl ⟨rfl, rfl, rfl, rfl, rfl⟩ rfl rfl rfl rfl rfl (by kernel_rfl) Try.func4 (by kernel_rfl)
    (of_decide_eq_true (by kernel_rfl)) (by unfold Func.isWrapper; first | (rw [if_pos (by decide +kernel)]; kernel_rfl) | (rw [if_neg (by decide +kernel)]; exact ⟨rfl, rfl⟩))
    (fun os started H enc _ => lifted os started H enc)
end Go.Proofs.Ytkkcfogfbabkfaa.RttPullL
