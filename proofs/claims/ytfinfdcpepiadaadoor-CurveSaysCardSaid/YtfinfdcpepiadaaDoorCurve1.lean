/- Package curve: the closure, slices.ContainsFunc, slices.IsSorted, Check, checkBoth. No statement is proved here. -/
import Derived.Test.YtfinfdcpepiadaaDoorCurveMath
import Derived.Test.YtfinfdcpepiadaaDoorErr
import Derived.Test.YtfinfdcpepiadaaDoorSub
import Derived.BigQuiet
import Derived.RegionTactic
namespace Go.Proofs.YtfinfdcpepiadaaDoor.Curve
open Go.ChangeShapes Go.WideShapes Go.ChangeAt Go.RowKit Go.Proofs.YtfinfdcpepiadaaDoor.Kit Go.Proofs.YtfinfdcpepiadaaDoor.App Go.Proofs.YtfinfdcpepiadaaDoor.Err
set_option linter.unusedVariables false
set_option maxRecDepth 20000
set_option maxHeartbeats 1000000

theorem er_ne {c : Int} (h : c ≠ 0) : er c = .iface 39 (.int .i64 c) := by unfold er; rw [if_neg h]
theorem out_any (x : Int) (w : World) (R : Bool) (hR : R = fit1 x) :
    Calls Tryd.prog 19 #[.int .i64 x] w fun e w' => e = .returned (.bool (!R)) ∧ w = w' := by
  by_cases h1 : 0 ≤ x
  · have t1 : decide (x < 0) = false := decide_eq_false (by omega)
    by_cases h2 : x ≤ 1000
    · have t2 : decide (x > 1000) = false := decide_eq_false (by omega)
      obtain rfl : R = true := by rw [hR]; exact fit1_iff.2 ⟨h1, h2⟩
      clear hR
      go_enter Tryd.func19, Tryd.ntmps19
      go_wp2_with fail
      go_ret
      exact ⟨rfl, rfl⟩
    · have t2 : decide (x > 1000) = true := decide_eq_true (by omega)
      obtain rfl : R = false := by rw [hR]; exact fit1_not.2 (fun h => h2 h.2)
      clear hR
      go_enter Tryd.func19, Tryd.ntmps19
      go_wp2_with fail
      go_ret
      exact ⟨rfl, rfl⟩
  · have t1 : decide (x < 0) = true := decide_eq_true (by omega)
    obtain rfl : R = false := by rw [hR]; exact fit1_not.2 (fun h => h1 h.1)
    clear hR
    go_enter Tryd.func19, Tryd.ntmps19
    go_wp2_with fail
    go_ret
    exact ⟨rfl, rfl⟩

theorem index_any (p : Option Addr) (cap n : Nat) (l : List Int) (w : World) (hn : n = l.length) (hi : Ints w p cap l) (hl : l.length ≤ 1000) :
    Calls Tryd.prog 27 #[.slice p n cap, .func (.func 19) #[] #[]] w fun e w' => (∃ r : Int, e = .returned (.int .i64 r) ∧ decide (r ≥ 0) = !fits l) ∧ w' = w := by
  have hlen := hi.len_le
  have HI := Lib.hid hi
  have OU := Lib.hid out_any
  have HN := Lib.hid hn
  clear hi
  rw [← hn] at hl hlen
  clear hn
  go_enter Tryd.func27, Tryd.ntmps27
  go_wp2_with fail
  go_loopw [8] (fun iv wr => ∃ k : Nat, k ≤ n ∧ iv = .int .i64 k ∧ wr = w ∧ Hid (∀ j : Nat, j < k → fit1 (am l j) = true)) (fun i _ => n - (intOf i).toNat)
  case atStart => exact ⟨0, Nat.zero_le _, rfl, rfl, fun j hj => absurd hj (Nat.not_lt_zero _)⟩
  case round =>
    obtain ⟨k, hk, rfl, rfl, H⟩ := hrel
    by_cases hlt : k < n
    · have hkl : k < l.length := by rw [← HN.out]; exact hlt
      obtain ⟨b, off, rfl, _, hc⟩ := HI.out.2.2.2 (by omega)
      have hck := hc k hkl
      clear hc
      have HK := Lib.hid hkl
      clear hkl
      obtain ⟨x, hx⟩ : ∃ x, am l k = x := ⟨_, rfl⟩
      rw [show l[k]?.getD 0 = x from hx] at hck
      have Hx := Lib.hid hx
      clear hx
      obtain ⟨R, hR⟩ : ∃ R, R = fit1 x := ⟨_, rfl⟩
      have C := Lib.hid (fun W => OU.out x W R hR)
      have HR := Lib.hid hR
      clear hR
      cases R with
      | true =>
        go_wp2_with fail
        refine (C.out _).mono ?_; rintro e w1 ⟨rfl, rfl⟩
        go_wp2_with fail
        go_roundw
        case rel => exact ⟨k + 1, by omega, by first | rfl | go_num, by first | trivial | rfl, fun j hj => by
          by_cases e : j = k
          · rw [e, Hx.out]; exact HR.out.symm
          · exact H.out j (by omega)⟩
        case measure => simp [intOf]; omega
      | false =>
        go_wp2_with fail
        refine (C.out _).mono ?_; rintro e w1 ⟨rfl, rfl⟩
        go_wp2_with fail
        go_ret
        exact ⟨⟨k, rfl, by rw [fits_false HK.out (by rw [Hx.out]; exact HR.out.symm), decide_eq_true (by omega)]; rfl⟩, rfl⟩
    · obtain rfl : k = n := by omega
      go_wp2_with fail
      go_ret
      exact ⟨⟨-1, rfl, by rw [fits_of (fun j hj => H.out j (by rw [HN.out]; exact hj))]; rfl⟩, rfl⟩
theorem contains_any (p : Option Addr) (cap n : Nat) (l : List Int) (w : World) (hn : n = l.length) (hi : Ints w p cap l) (hl : l.length ≤ 1000) (R : Bool) (hR : R = fits l) :
    Calls Tryd.prog 18 #[.slice p n cap, .func (.func 19) #[] #[]] w fun e w' => e = .returned (.bool (!R)) ∧ w' = w := by
  subst hR
  have IX := Lib.hid (index_any p cap n l w hn hi hl)
  clear hi hl hn
  go_enter Tryd.func18, Tryd.ntmps18
  go_wp2_with fail
  refine IX.out.mono ?_; rintro e w1 ⟨⟨r, rfl, hr⟩, rfl⟩
  have HR := Lib.hid hr
  clear hr IX
  go_wp2_with fail
  go_ret
  exact ⟨by rw [← HR.out]; rfl, rfl⟩

theorem nan_any (x : Int) (w : World) : Calls Tryd.prog 35 #[.int .i64 x] w fun e w' => e = .returned (.bool false) ∧ w' = w := by
  have t1 : (x != x) = false := by simp
  go_enter Tryd.func35, Tryd.ntmps35
  go_wp2_with fail
  go_ret
  exact ⟨rfl, rfl⟩
theorem less_any (x y : Int) (w : World) (R : Bool) (hR : decide (x < y) = R) : Calls Tryd.prog 28 #[.int .i64 x, .int .i64 y] w fun e w' => e = .returned (.bool R) ∧ w' = w := by
  have NA := Lib.hid (fun W => nan_any x W)
  go_enter Tryd.func28, Tryd.ntmps28
  go_wp2_with fail
  refine (NA.out _).mono ?_; rintro e w1 ⟨rfl, rfl⟩
  go_wp2_with fail
  go_ret
  exact ⟨by first | rfl | rw [hR] | (rw [hR]; rfl), rfl⟩

theorem sorted_any (p : Option Addr) (cap n : Nat) (l : List Int) (w : World) (hn : n = l.length) (hi : Ints w p cap l) (hl : 0 < n ∧ n ≤ 1000) (R : Bool) (hR : R = up l) :
    Calls Tryd.prog 20 #[.slice p n cap] w fun e w' => e = .returned (.bool R) ∧ ∃ m, w' = w.drewN m := by
  have hlen := hi.len_le
  have HR := Lib.hid hR
  have HN := Lib.hid hn
  obtain ⟨b, off, rfl, _, hc⟩ := hi.2.2.2 (by omega)
  have HC := Lib.hid hc
  rw [← hn] at hlen
  obtain ⟨hl1, hl2⟩ := hl
  have LS := Lib.hid less_any
  clear hi hn hc hR
  go_enter Tryd.func20, Tryd.ntmps20
  go_wp2_with fail
  go_loopw [3] (fun iv wr => ∃ k : Nat, k < n ∧ iv = .int .i64 k ∧ Hid (∃ m, wr = w.drewN m) ∧ Hid (∀ j : Nat, k ≤ j → j + 1 < n → am l j ≤ am l (j + 1))) (fun i _ => (intOf i).toNat)
  case atStart => exact ⟨n - 1, by omega, by first | rfl | (congr 1; omega) | (go_num; omega), Lib.hid ⟨0, rfl⟩, Lib.hid (fun j h1 h2 => by omega)⟩
  case round =>
    obtain ⟨k, hk, rfl, HD, H⟩ := hrel
    by_cases hk0 : 0 < k
    · have t1 : decide ((k : Int) > 0) = true := decide_eq_true (by omega)
      obtain ⟨j, hj⟩ : ∃ j, k = j + 1 := ⟨k - 1, by omega⟩
      have hj1 : (k : Int) - 1 = (j : Int) := by omega
      have hjn : (j : Int) < (n : Int) := by omega
      have c1 : wr.cell? ⟨b, off + k, none⟩ = some (.int .i64 (am l k)) := by
        obtain ⟨m, rfl⟩ := HD.out
        exact HC.out k (by rw [← HN.out]; exact hk)
      have c2 : wr.cell? ⟨b, off + j, none⟩ = some (.int .i64 (am l j)) := by
        obtain ⟨m, rfl⟩ := HD.out
        exact HC.out j (by rw [← HN.out]; omega)
      obtain ⟨x, hx⟩ : ∃ x, am l k = x := ⟨_, rfl⟩
      obtain ⟨y, hy⟩ : ∃ y, am l j = y := ⟨_, rfl⟩
      rw [hx] at c1
      rw [hy] at c2
      have HX := Lib.hid (And.intro hx hy)
      have HJ := Lib.hid hj
      obtain ⟨Q, hQ⟩ : ∃ Q, decide (x < y) = Q := ⟨_, rfl⟩
      have C := Lib.hid (fun W => LS.out x y W Q hQ)
      have HQ := Lib.hid hQ
      clear hx hy hQ hj
      cases Q with
      | true =>
        go_wp2_with fail
        go_quiet ((go_at_call 28; refine Calls.quiet_of_same (C.out _)))
        go_wp2_with fail
        go_ret
        refine ⟨?_, ?_⟩
        · have hJ := HJ.out
          rw [HR.out, up_false (k := j) (by rw [← hJ, ← HN.out]; exact hk) (by rw [← hJ, HX.out.1, HX.out.2]; exact of_decide_eq_true HQ.out)]
          rfl
        · obtain ⟨m, rfl⟩ := HD.out
          exact ⟨m + nq, World.drewN_drewN ..⟩
      | false =>
        go_wp2_with fail
        go_quiet ((go_at_call 28; refine Calls.quiet_of_same (C.out _)))
        go_wp2_with fail
        go_roundw
        case rel => exact ⟨j, by have := HJ.out; omega, by first | rfl | go_num, Lib.hid (by obtain ⟨m, rfl⟩ := HD.out; exact ⟨m + nq, World.drewN_drewN ..⟩), Lib.hid (fun i h1 h2 => by
          have hJ := HJ.out
          by_cases e : i = j
          · rw [e, ← hJ, HX.out.1, HX.out.2]
            have := of_decide_eq_false HQ.out
            omega
          · exact H.out i (by omega) h2)⟩
        case measure => have := HJ.out; simp [intOf]; omega
    · obtain rfl : k = 0 := by omega
      have HU := Lib.hid (show R = true by
        rw [HR.out]
        exact up_iff.2 fun j hj => H.out j (Nat.zero_le _) (by rw [HN.out]; exact hj))
      clear H
      go_wp2_with fail
      go_ret
      exact ⟨by rw [HU.out]; rfl, HD.out⟩

theorem check_any (p : Option Addr) (cap n : Nat) (l : List Int) (w : World) (hn : n = l.length) (hi : Ints w p cap l) (c : Int) (hc : one l = c) :
    Calls Tryd.prog 5 #[.slice p n cap] w fun e w' => e = .returned (er c) ∧ ∃ m, w' = w.drewN m := by
  have hlen := hi.len_le
  rw [← hn] at hlen
  unfold one at hc
  rw [← hn] at hc
  by_cases h0 : n = 0
  · have t0 : ((n : Int) == 0) = true := by rw [beq_iff_eq]; omega
    rw [if_pos h0] at hc
    subst hc
    rw [er_5]
    clear hn hi h0
    go_enter Tryd.func5, Tryd.ntmps5
    go_wp2_with fail
    go_ret
    exact ⟨rfl, 0, rfl⟩
  have t0 : ((n : Int) == 0) = false := by rw [beq_eq_false_iff_ne]; omega
  rw [if_neg h0] at hc
  by_cases h1 : 16 < n
  · have t1 : decide ((n : Int) > 16) = true := decide_eq_true (by omega)
    rw [if_pos h1] at hc
    subst hc
    rw [er_4]
    clear hn hi h0
    go_enter Tryd.func5, Tryd.ntmps5
    go_wp2_with fail
    go_ret
    exact ⟨rfl, 0, rfl⟩
  have t1 : decide ((n : Int) > 16) = false := decide_eq_false (by omega)
  rw [if_neg h1] at hc
  obtain ⟨R, hR⟩ : ∃ R, R = fits l := ⟨_, rfl⟩
  rw [← hR] at hc
  have CT := Lib.hid (contains_any p cap n l w hn hi (by rw [← hn]; omega) R hR)
  obtain ⟨U, hU⟩ : ∃ U, U = up l := ⟨_, rfl⟩
  rw [← hU] at hc
  have SO := Lib.hid (fun m => sorted_any p cap n l (w.drewN m) hn (hi.below (bdrewN (brefl w) m)) (by omega) U hU)
  have SO := Lib.hid (SO.out 0)
  clear hR hU hn hi h0 h1
  cases R with
  | false =>
    rw [if_pos rfl] at hc
    subst hc
    rw [er_1]
    go_enter Tryd.func5, Tryd.ntmps5
    go_wp2_with fail
    refine CT.out.mono ?_; rintro e w1 ⟨rfl, rfl⟩
    go_wp2_with fail
    go_ret
    exact ⟨rfl, 0, rfl⟩
  | true =>
    rw [if_neg (by decide)] at hc
    cases U with
    | false =>
      rw [if_pos rfl] at hc
      subst hc
      rw [er_3]
      go_enter Tryd.func5, Tryd.ntmps5
      go_wp2_with fail
      refine CT.out.mono ?_; rintro e w1 ⟨rfl, rfl⟩
      go_wp2_with fail
      refine SO.out.mono ?_; rintro e w2 ⟨rfl, hm⟩
      go_wp2_with fail
      go_ret
      exact ⟨rfl, hm⟩
    | true =>
      rw [if_neg (by decide)] at hc
      subst hc
      rw [er_0]
      go_enter Tryd.func5, Tryd.ntmps5
      go_wp2_with fail
      refine CT.out.mono ?_; rintro e w1 ⟨rfl, rfl⟩
      go_wp2_with fail
      refine SO.out.mono ?_; rintro e w2 ⟨rfl, hm⟩
      go_wp2_with fail
      go_ret
      exact ⟨rfl, hm⟩

theorem both_any (p q : Option Addr) (cp cq n m : Nat) (f g : List Int) (w : World) (hn : n = f.length) (hm : m = g.length) (hf : Ints w p cp f) (hg : Ints w q cq g) (c : Int) (hc : two f g = c) :
    Calls Tryd.prog 24 #[.slice p n cp, .slice q m cq] w fun e w' => e = .returned (er c) ∧ ∃ m, w' = w.drewN m := by
  have CF := Lib.hid (fun c hc => check_any p cp n f w hn hf c hc)
  have CG := Lib.hid (fun i c hc => check_any q cq m g (w.drewN i) hm (hg.below (bdrewN (brefl w) i)) c hc)
  have l1 := hf.len_le
  have l2 := hg.len_le
  unfold two at hc
  rw [← hn, ← hm] at hc
  rw [← hn] at l1
  rw [← hm] at l2
  clear hn hm hf hg
  by_cases h1 : one f = 0
  · rw [if_neg (fun h => h h1)] at hc
    have CF := Lib.hid (CF.out 0 h1)
    rw [er_0] at CF
    by_cases h2 : one g = 0
    · rw [if_neg (fun h => h h2)] at hc
      have CG := Lib.hid (fun i => CG.out i 0 h2)
      rw [er_0] at CG
      clear h1 h2
      by_cases h3 : n = m
      · rw [if_neg (fun h => h h3)] at hc
        subst h3
        have t3 : ((n : Int) != (n : Int)) = false := by simp
        subst hc
        rw [er_0]
        go_enter Tryd.func24, Tryd.ntmps24
        go_wp2_with fail
        refine CF.out.mono ?_; rintro e w1 ⟨rfl, i, rfl⟩
        go_wp2_with fail
        refine (CG.out _).mono ?_; rintro e w2 ⟨rfl, j, rfl⟩
        go_wp2_with fail
        go_ret
        exact ⟨rfl, _, rfl⟩
      · rw [if_pos h3] at hc
        have t3 : ((n : Int) != (m : Int)) = true := by rw [bne_iff_ne]; omega
        subst hc
        rw [er_3]
        go_enter Tryd.func24, Tryd.ntmps24
        go_wp2_with fail
        refine CF.out.mono ?_; rintro e w1 ⟨rfl, i, rfl⟩
        go_wp2_with fail
        refine (CG.out _).mono ?_; rintro e w2 ⟨rfl, j, rfl⟩
        go_wp2_with fail
        go_ret
        exact ⟨rfl, _, rfl⟩
    · rw [if_pos h2] at hc
      have h0 : c ≠ 0 := by rw [← hc]; exact h2
      have CG := Lib.hid (fun i => CG.out i c hc)
      rw [er_ne h0] at CG ⊢
      clear h1 h2 hc h0
      go_enter Tryd.func24, Tryd.ntmps24
      go_wp2_with fail
      refine CF.out.mono ?_; rintro e w1 ⟨rfl, i, rfl⟩
      go_wp2_with fail
      refine (CG.out _).mono ?_; rintro e w2 ⟨rfl, j, rfl⟩
      go_wp2_with fail
      go_ret
      exact ⟨rfl, _, rfl⟩
  · rw [if_pos h1] at hc
    have h0 : c ≠ 0 := by rw [← hc]; exact h1
    have CF := Lib.hid (CF.out c hc)
    rw [er_ne h0] at CF ⊢
    clear h1 hc h0
    go_enter Tryd.func24, Tryd.ntmps24
    go_wp2_with fail
    refine CF.out.mono ?_; rintro e w1 ⟨rfl, i, rfl⟩
    go_wp2_with fail
    go_ret
    exact ⟨rfl, _, rfl⟩
end Go.Proofs.YtfinfdcpepiadaaDoor.Curve
