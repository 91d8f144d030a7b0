/- The flows are never further apart than at the start, and each halving halves the distance: the law returns true for every input. No condition. -/
import Derived.Test.YtbjoabggdhndmaaAimdLaw
import Derived.Test.YtbjoabggdhndmaaRising
namespace Go.Proofs.Ytbjoabggdhndmaa.aimdFairP
open Go.ChangeShapes Go.WideShapes Go.ChangeAt Go.RowKit
open Go.Proofs.Ytbjoabggdhndmaa.Kit Go.Proofs.Ytbjoabggdhndmaa.App Go.Proofs.Ytbjoabggdhndmaa.Err Go.Proofs.Ytbjoabggdhndmaa.AimdMath Go.Proofs.Ytbjoabggdhndmaa.Aimd
set_option linter.unusedVariables false
set_option maxRecDepth 20000

abbrev Law (p : Option Addr) (cap : Nat) (l : List Int) (room s : Int) (w : World) : Prop := Calls Try.prog 3 #[.slice p l.length cap, .int .i64 room, .int .i64 s] w fun e w' => e = .returned (.bool true) ∧ Below w.heap.size w w'

set_option maxHeartbeats 1000000 in
theorem law_bad (p : Option Addr) (cap : Nat) (l : List Int) (room s : Int) (w : World) (hi : Ints w p cap l) (h0 : badR l room s ≠ 0) : Law p cap l room s w := by
  obtain ⟨c, hc⟩ : ∃ c, c = badR l room s := ⟨_, rfl⟩
  rw [← hc] at h0
  obtain ⟨n, hn⟩ : ∃ n, n = l.length := ⟨_, rfl⟩
  have hlen := hi.len_le
  unfold Law
  rw [← hn] at hlen ⊢
  have FA := Lib.hid (fact_any w)
  have RB := Lib.hid (fun W (hb : Below w.heap.size w W) => run_bad p cap n room s l W hn (hi.below hb) c hc h0)
  by_cases hd : bad l 1 = 0
  · have AG := Lib.hid (fun W (hb : Below w.heap.size w W) => apart_good p cap n l W hn (hi.below hb) hd _ rfl)
    generalize AimdMath.hi l - lo l = D at AG
    clear hi hc h0 hn hd
    go_enter Try.func3, Try.ntmps3
    go_wp2_with fail
    refine FA.out.mono ?_; rintro e w1 ⟨rfl, hb1⟩
    go_wp2_with fail
    refine (AG.out _ hb1).mono ?_; rintro e w2 ⟨rfl, rfl⟩
    go_wp2_with fail
    refine (RB.out _ hb1).mono ?_; rintro e w2 ⟨rfl, rfl⟩
    go_wp2_with fail
    go_ret
    exact ⟨rfl, hb1⟩
  · obtain ⟨d, hdd⟩ : ∃ d, d = bad l 1 := ⟨_, rfl⟩
    have AB := Lib.hid (fun W (hb : Below w.heap.size w W) => apart_bad p cap n l W hn (hi.below hb) d hdd (by rw [hdd]; exact hd))
    clear hi hc h0 hn hd hdd
    go_enter Try.func3, Try.ntmps3
    go_wp2_with fail
    refine FA.out.mono ?_; rintro e w1 ⟨rfl, hb1⟩
    go_wp2_with fail
    refine (AB.out _ hb1).mono ?_; rintro e w2 ⟨rfl, rfl⟩
    go_wp2_with fail
    refine (RB.out _ hb1).mono ?_; rintro e w2 ⟨rfl, rfl⟩
    go_wp2_with fail
    go_ret
    exact ⟨rfl, hb1⟩
set_option maxHeartbeats 4000000 in
theorem law_good (p : Option Addr) (cap : Nat) (l : List Int) (room : Int) (s : Nat) (w : World) (hi : Ints w p cap l) (h0 : bad l room = 0) (hs : s ≤ 1000) : Law p cap l room s w := by
  obtain ⟨h1, h5, hf, hr1, hr2⟩ := bad_zero.1 h0
  obtain ⟨n, hn⟩ : ∃ n, n = l.length := ⟨_, rfl⟩
  have hd : bad l 1 = 0 := bad_zero.2 ⟨h1, h5, hf, by omega, by omega⟩
  have hrl : (rates room l s).length = n := by rw [rates_len, hn]
  have hmono : ∀ x y, x ≤ y → F room l s x ≤ F room l s y := fun x y h => F_mono h
  have hhi : AimdMath.hi (rates room l s) = F room l s (AimdMath.hi l) := hi_map hmono h1
  have hlo : lo (rates room l s) = F room l s (lo l) := lo_map hmono h1
  have b1 := fits_all hf _ (hi_mem (l := l) h1)
  have b2 := fits_all hf _ (lo_mem (l := l) h1)
  have hnear := near (room := room) (l := l) (k := s) (lo_hi h1) b2.1 b1.2
  have hge := hmono _ _ (lo_hi h1)
  have hb3 := F_bound (room := room) (l := l) (k := s) b2.1
  have hb4 := F_bound (room := room) (l := l) (k := s) b1.1
  have hlh := lo_hi (l := l) h1
  unfold Law
  rw [← hn] at h1 h5 ⊢
  have FA := Lib.hid (fact_any w)
  have AG := Lib.hid (fun W (hb : Below w.heap.size w W) => apart_good p cap n l W hn (hi.below hb) hd _ rfl)
  have RG := Lib.hid (fun W (hb : Below w.heap.size w W) => run_good p cap n s room l W hn (hi.below hb) h0 hs)
  have RI := Lib.hid (fun W p' c' (h : Ints W p' c' (rates room l s)) => Rising.rising_any p' c' n (rates room l s) W hrl.symm h h1 (by omega))
  rw [hhi, hlo] at RI
  have HRL := Lib.hid hrl
  have HH := H_le (room := room) (l := l) (k := s)
  clear hi h0 hn hf hrl hmono hhi hlo hd hr1 hr2
  generalize rates room l s = m at RG RI HRL
  generalize H room l s = hv at RG hnear HH
  generalize F room l s (AimdMath.hi l) = A at *
  generalize F room l s (lo l) = B at *
  generalize AimdMath.hi l = a at *
  generalize lo l = b at *
  have hD := chn_nonneg (k := 0) (x := a - b) (by omega)
  obtain ⟨D, hDD⟩ : ∃ D, a - b = D := ⟨_, rfl⟩
  rw [hDD] at AG hnear hD
  have hD0 : 0 ≤ D ∧ D ≤ 1000 := by omega
  obtain ⟨I, hI⟩ : ∃ I, A - B = I := ⟨_, rfl⟩
  rw [hI] at hnear
  have hI0 : 0 ≤ I ∧ I ≤ 3000 := by omega
  have NEAR := Lib.hid hnear
  have HI := Lib.hid hI
  have HAB := Lib.hid (And.intro hb3 (And.intro hb4 (And.intro b1 b2)))
  obtain ⟨q, hq⟩ : ∃ q : Nat, n = q + 1 := ⟨n - 1, by omega⟩
  have HQ := Lib.hid hq
  clear hb3 hb4 b1 b2 hge hlh hnear hD hDD hI hq hs
  go_enter Try.func3, Try.ntmps3
  go_wp2_with fail
  refine FA.out.mono ?_; rintro e w1 ⟨rfl, hb1⟩
  go_wp2_with fail
  refine (AG.out _ hb1).mono ?_; rintro e w2 ⟨rfl, rfl⟩
  go_wp2_with fail
  refine (RG.out _ hb1).mono ?_; rintro e w3 ⟨⟨v, rfl, ho⟩, hb3⟩
  have hB3 := bcall hb1 hb3
  obtain ⟨vp, vc, rfl, hvi⟩ := ho.form
  rw [HRL.out]
  have C := Lib.hid (RI.out _ _ _ hvi)
  clear ho hb3 hvi hb1 FA RG AG RI
  go_wp2_with fail
  refine C.out.mono ?_; rintro e w4 ⟨⟨v2, r, rfl, ho, hrl, hr0, hr1⟩, hb4⟩
  have hB4 := bcall hB3 hb4
  obtain ⟨vp2, vc2, rfl, hvi⟩ := ho.form
  obtain ⟨g, cap2, e2, _, _, hc1, hc2⟩ := own_pos ho (by omega)
  rw [hrl] at e2 hc1 ⊢
  injection e2 with e3 _ e4
  subst e3; subst e4
  have c0 := own_cell ho 0 (by omega)
  have cq := own_cell ho q (by have := HQ.out; omega)
  rw [hr0] at c0
  rw [show q = n - 1 by have := HQ.out; omega, hr1, ← show q = n - 1 by have := HQ.out; omega] at cq
  have hnq : (n : Int) - 1 = (q : Int) := by have := HQ.out; omega
  have hqn : (q : Int) < (n : Int) := by have := HQ.out; omega
  have hwq := wrap_in (n := (n : Int) - 1) (by omega)
  have hwI := wrap_in (n := A - B) (by rw [HI.out]; omega)
  rw [hnq] at hwq
  rw [HI.out] at hwI
  have hABI := HI.out
  have tn : decide ((n : Int) > 0) = true := decide_eq_true (by omega)
  clear ho hvi hr0 hr1 hrl hb4 C hB3 HAB
  go_wp2_with fail
  go_quiet (fail)
  rename_i nq
  have hB5 := Lib.hid (bdrewN hB4 nq)
  clear c0 cq hB4 hABI hwI
  generalize w4.drewN nq = w5 at hB5 ⊢
  clear hwq hnq hqn HQ HI HRL hc1 hc2 tn
  go_wp2_with fail
  go_loopw [8, 15] (fun wv iv wr => ∃ i : Nat, ∃ t : Int, i ≤ min hv 20 ∧ iv = .int .i64 (i : Int) ∧ wv = .int .i64 t ∧ wr = w5 ∧ 0 ≤ t ∧ t ≤ 1000 ∧ Hid (t = chn i D)) (fun _ i _ => 20 - (intOf i).toNat)
  case atStart => exact ⟨0, D, Nat.zero_le _, rfl, rfl, rfl, hD0.1, hD0.2, Lib.hid rfl⟩
  case round =>
    obtain ⟨i, t, hin, rfl, rfl, rfl, ht0, ht1, HT⟩ := hrel
    by_cases hlt : i < hv
    · have t5 : decide ((i : Int) < (hv : Int)) = true := decide_eq_true (by omega)
      by_cases hl2 : i < 20
      · have t6 : decide ((i : Int) < 20) = true := decide_eq_true (by omega)
        have hw1 := wrap_in (n := t + 1) (by omega)
        obtain ⟨u, hu⟩ : ∃ u, (t + 1) / 2 = u := ⟨_, rfl⟩
        have hq2 : (t + 1).tdiv 2 = u := by rw [Int.tdiv_eq_ediv_of_nonneg (by omega)]; exact hu
        have hw2 := wrap_in (n := u) (by omega)
        have hu2 : 0 ≤ u ∧ u ≤ 1000 := by omega
        have HT2 := Lib.hid (show u = chn (i + 1) D by rw [← hu, HT.out]; rfl)
        clear hu
        go_wp2_with fail
        go_roundw
        case rel => exact ⟨i + 1, u, by omega, by first | rfl | go_num, by first | rfl | rw [hq2] | rw [hw1, hq2] | rw [hw1, hq2, hw2], by first | trivial | rfl, hu2.1, hu2.2, HT2⟩
        case measure => simp [intOf]; omega
      · obtain rfl : i = 20 := by omega
        have t6 : decide (((20 : Nat) : Int) < 20) = false := by decide
        have hI1 : I ≤ t := by rw [HT.out]; have := NEAR.out.1; rwa [Nat.min_eq_right (by omega)] at this
        have t7 : decide (I ≤ t) = true := decide_eq_true hI1
        have t8 : decide ((hv : Int) < 10) = false := decide_eq_false (by omega)
        have t9 : decide (I ≤ 1) = true := decide_eq_true (NEAR.out.2 (by omega))
        clear hI1
        go_wp2_with fail
        go_ret
        exact ⟨by first | rfl | rw [t9], hB5⟩
    · obtain rfl : i = hv := by omega
      have t5 : decide ((i : Int) < (i : Int)) = false := decide_eq_false (by omega)
      have hI1 : I ≤ t := by rw [HT.out]; have := NEAR.out.1; rwa [Nat.min_eq_left (by omega)] at this
      have t7 : decide (I ≤ t) = true := decide_eq_true hI1
      clear hI1
      by_cases h10 : i < 10
      · have t8 : decide ((i : Int) < 10) = true := decide_eq_true (by omega)
        go_wp2_with fail
        go_ret
        exact ⟨by first | rfl | rw [t7], hB5⟩
      · have t8 : decide ((i : Int) < 10) = false := decide_eq_false (by omega)
        have t9 : decide (I ≤ 1) = true := decide_eq_true (NEAR.out.2 (by omega))
        go_wp2_with fail
        go_ret
        exact ⟨by first | rfl | rw [t9], hB5⟩

theorem reads : Try.f3.params.toList.all (fun t => Try.prog.readableRec t && decide (t < Try.prog.types.size)) = true := by kernel_rfl

theorem contract (H : Type) (enc : TypeId × Value → H) (W : World) (base : Nat) (args : Array Value) (ds gs : List (DataW H)) (before : List MemPlace)
    (hval : ∀ (j : Nat) t v, Try.f3.params[j]? = some t → args[j]? = some v → Value.okWide Try.prog W .any base t v)
    (hW : DataW.Whole enc Try.prog Try.f3.params.toList Rows.aimdFairSpec.vars false W args.toList ds gs before) :
    Calls Try.prog 3 args W fun e W' => ∃ v, e = .returned v ∧ Rows.aimdFairSpec.post enc Try.prog Try.f3 false true false false W args v W' := by
  have hW' := hW
  obtain ⟨p, q, hA0, hV, rfl, hfz, hnd⟩ := hW
  have hA : DataW.TrodAll enc Try.prog W 0 (fun _ => true) true Try.f3.params.toList args.toList ds p := hA0
  have hlt := hA.lt
  rw [Try.params3] at hA hval
  obtain ⟨v0, vs0, d0, ds0, p0, q0, hargs, rfl, rfl, h0, r0⟩ := trodAll_cons hA
  obtain ⟨v1, vs1, d1, ds1, p1, q1, hvs1, rfl, rfl, h1, r1⟩ := trodAll_cons r0
  obtain ⟨v2, vs2, d2, ds2, p2, q2, hvs2, rfl, rfl, h2, r2⟩ := trodAll_cons r1
  obtain ⟨hvsn, rfl, rfl⟩ := trodAll_nil r2
  simp only [hvsn, hvs2, hvs1] at hargs
  obtain rfl : args = #[v0, v1, v2] := by cases args; simp_all
  obtain ⟨rfl, rfl⟩ := trodVars_none hV
  clear hA0
  obtain ⟨p0a, cap0, l0, rfl, i0⟩ := open_intsl Try.underlying22 Try.underlying3 (by kernel_rfl) (hval 0 22 v0 rfl rfl) h0 (fun x hx => hlt x (by simp [hx]))
  obtain ⟨a1, rfl, rfl, rfl, w1⟩ := open_int Try.underlying3 (hval 1 3 v1 rfl rfl) h1
  have b1 := bounds_int w1
  obtain ⟨a2, rfl, rfl, rfl, w2⟩ := open_int Try.underlying3 (hval 2 3 v2 rfl rfl) h2
  have b2 := bounds_int w2
  exact law_post 4 laid reads rfl Try.underlying4 rfl hW' ⟨rfl, rfl, rfl⟩ (by
    by_cases h : badR l0 a1 a2 = 0
    · obtain ⟨h1, h2, h3⟩ := badR_zero.1 h
      obtain ⟨s, rfl⟩ : ∃ k : Nat, a2 = k := ⟨a2.toNat, by omega⟩
      exact law_good p0a cap0 l0 a1 s W i0 h1 (by omega)
    · exact law_bad p0a cap0 l0 a1 a2 W i0 h)

set_option maxRecDepth 100000 in
theorem lifted (os : Os) (started : os.Started) (H : Type) (enc : TypeId × Value → H) :
    ReturnsInHanded {} Try.checked os 3 .any (Rows.aimdFairSpec.pre6 enc Try.prog Try.f3 Rows.aimdFairRow.domain false) (Rows.aimdFairSpec.post enc Try.prog Try.f3 false true false false) := by
  refine returnsInHanded_of_change (C := Try.checked) own started (by kernel_rfl) Try.func3
    (ChangeSpec.witness6 (enc := enc) (C := Try.checked) false ⟨#[], #[.slice none 0 0, .int .i64 0, .int .i64 0], []⟩ 8 (by kernel_rfl) (by kernel_rfl) (by kernel_rfl) (by kernel_rfl)) ?_
  intro W base args ds gs before hval hW _ _
  exact contract H enc W base args ds gs before hval hW

theorem proved : Rows.AimdFairSaid :=
  OpenClaim.holds_of_wide 3 Try.f3 rfl rfl rfl rfl rfl rfl rfl ⟨rfl, rfl, rfl, rfl, rfl⟩ rfl rfl rfl rfl rfl (by kernel_rfl) Try.func3 (by kernel_rfl)
    (of_decide_eq_true (by kernel_rfl)) (by unfold Func.isWrapper; first | (rw [if_pos (by decide +kernel)]; kernel_rfl) | (rw [if_neg (by decide +kernel)]; exact ⟨rfl, rfl⟩))
    (fun os started H enc _ => lifted os started H enc)
end Go.Proofs.Ytbjoabggdhndmaa.aimdFairP
