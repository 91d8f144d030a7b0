/- TopShares: on one link max-min shares are equal up to rounding, and additive increase with multiplicative decrease converges towards them: for every input. No condition. -/
import Derived.Test.YtggnpecmldnmnaaMax3
import Derived.Test.YtggnpecmldnmnaaSame
import Derived.Test.YtggnpecmldnmnaaSharesMath
import Derived.Test.YtggnpecmldnmnaaOwnR
import Derived.Test.YtggnpecmldnmnaaInTop
import Derived.Test.YtggnpecmldnmnaaAimdRun
import Derived.Test.YtggnpecmldnmnaaRising
import Derived.BigQuiet
namespace Go.Proofs.Ytggnpecmldnmnaa.TopSharesL
open Go.ChangeShapes Go.WideShapes Go.ChangeAt Go.RowKit Go.Proofs.Ytggnpecmldnmnaa.Kit Go.Proofs.Ytggnpecmldnmnaa.App Go.Proofs.Ytggnpecmldnmnaa.Err Go.Proofs.Ytggnpecmldnmnaa.Drr Go.Proofs.Ytggnpecmldnmnaa.Maxmin
set_option linter.unusedVariables false
set_option maxRecDepth 20000
set_option maxHeartbeats 4000000

theorem two_rows (w : World) : RowsI (((w.alloc (.cells #[.int .i64 0] 3)).alloc (.cells #[.int .i64 0] 3)).alloc (.cells #[.slice (some ⟨w.heap.size, 0, none⟩) 1 1, .slice (some ⟨w.heap.size + 1, 0, none⟩) 1 1] 22)) (some ⟨w.heap.size + 2, 0, none⟩) 2 (ones 2) := by
  have h1 := lit_ints w [0] (by decide) (by decide)
  have h2 : Ints ((w.alloc (.cells #[.int .i64 0] 3)).alloc (.cells #[.int .i64 0] 3)) (some ⟨w.heap.size + 1, 0, none⟩) 1 [0] := by
    have := lit_ints (w.alloc (.cells #[.int .i64 0] 3)) [0] (by decide) (by decide)
    simpa using this
  refine ⟨by simp [ones_len], by simp [maxLen], fun _ => ⟨w.heap.size + 2, 0, rfl, by simp, fun j hj => ?_⟩⟩
  rcases j with _|_|j
  · exact ⟨_, _, by go_simp; rfl, (h1.below (balloc (brefl _) _)).below (balloc (brefl _) _)⟩
  · exact ⟨_, _, by go_simp; rfl, h2.below (balloc (brefl _) _)⟩
  · rw [ones_len] at hj; omega
theorem first_any (W : World) : Calls Try.prog 8 #[.slice (some ⟨W.heap.size, 0, none⟩) 1 1, .slice (some ⟨W.heap.size + 3, 0, none⟩) 2 2]
    ((((W.alloc (.cells #[.int .i64 7] 3)).alloc (.cells #[.int .i64 0] 3)).alloc (.cells #[.int .i64 0] 3)).alloc (.cells #[.slice (some ⟨W.heap.size + 1, 0, none⟩) 1 1, .slice (some ⟨W.heap.size + 2, 0, none⟩) 1 1] 22)) fun e w' =>
    (∃ c, e = .returned (.tuple #[.slice c 2 2, .nilIface]) ∧ Ints w' c 2 [3, 3]) ∧ Below W.heap.size W w' := by
  have hg := ones_good (c := 7) (by decide) (m := 2) (by decide)
  obtain ⟨N, r, hr⟩ := runs_exist hg
  have e0 := ones_share (c := 7) (by decide) (m := 2) (by decide) (by decide) hr 0 (by decide)
  have e1 := ones_share (c := 7) (by decide) (m := 2) (by decide) (by decide) hr 1 (by decide)
  have h3 : (lt 2 fun y => r y.toNat) = [3, 3] := by
    show [r 0, r 1] = [3, 3]
    rw [e0, e1]; rfl
  refine (share_good (some ⟨W.heap.size, 0, none⟩) 1 1 [7] (some ⟨W.heap.size + 3, 0, none⟩) 2 2 (ones 2) _ rfl
    ((((lit_ints W [7] (by decide) (by decide)).below (balloc (brefl _) _)).below (balloc (brefl _) _)).below (balloc (brefl _) _)) (by rw [ones_len]) (by
      have := two_rows (W.alloc (.cells #[.int .i64 7] 3))
      simpa using this) hg N r hr).mono ?_
  rintro e w' ⟨c, rfl, ho, hb⟩
  rw [h3] at ho
  obtain ⟨_, _, e2, hi⟩ := ho.form
  injection e2 with e2 _ e3
  subst e2; subst e3
  exact ⟨⟨_, rfl, hi⟩, bcall (balloc (balloc (balloc (balloc (brefl W) _) _) _) _) hb⟩
abbrev Law (room many : Int) (p : Option Addr) (n cap : Nat) (w : World) : Prop := Calls Try.prog 6 #[.int .i64 room, .int .i64 many, .slice p n cap] w fun e w' => e = .returned (.bool true) ∧ Below w.heap.size w w'
theorem law_out (room many : Int) (p : Option Addr) (n cap : Nat) (w : World) (h : ¬ ((1 ≤ many ∧ many ≤ 5) ∧ (0 ≤ room ∧ room ≤ 1000))) : Law room many p n cap w := by
  unfold Law
  by_cases h1 : 1 ≤ many ∧ many ≤ 5
  · have IN := Lib.hid (fun W => int_any many 1 5 W true (in_true h1))
    have IN2 := Lib.hid (fun W => int_any room 0 1000 W false (in_false (fun h2 => h ⟨h1, h2⟩)))
    clear h h1
    go_enter Try.func6, Try.ntmps6
    go_wp2_with fail
    refine (first_any w).mono ?_; rintro e w1 ⟨⟨c, rfl, hI⟩, hb1⟩
    have SM := Lib.hid (ints_any c (some ⟨w1.heap.size, 0, none⟩) 2 2 2 2 [3, 3] [3, 3] (w1.alloc (.cells #[.int .i64 3, .int .i64 3] 3)) rfl rfl (hI.below (balloc (brefl _) _)) (lit_ints w1 [3, 3] (by decide) (by decide)) true (by decide))
    have HB1 := Lib.hid hb1
    clear hI hb1
    go_wp2_with fail
    refine SM.out.mono ?_; rintro e w2 ⟨rfl, hb2⟩
    have HB2 := Lib.hid (bcall (balloc HB1.out _) hb2)
    clear SM hb2 HB1
    go_wp2_with fail
    refine (IN.out _).mono ?_; rintro e w3 ⟨rfl, rfl⟩
    go_wp2_with fail
    refine (IN2.out _).mono ?_; rintro e w3 ⟨rfl, rfl⟩
    go_wp2_with fail
    go_ret
    exact ⟨rfl, HB2.out⟩
  · have IN := Lib.hid (fun W => int_any many 1 5 W false (in_false h1))
    clear h h1
    go_enter Try.func6, Try.ntmps6
    go_wp2_with fail
    refine (first_any w).mono ?_; rintro e w1 ⟨⟨c, rfl, hI⟩, hb1⟩
    have SM := Lib.hid (ints_any c (some ⟨w1.heap.size, 0, none⟩) 2 2 2 2 [3, 3] [3, 3] (w1.alloc (.cells #[.int .i64 3, .int .i64 3] 3)) rfl rfl (hI.below (balloc (brefl _) _)) (lit_ints w1 [3, 3] (by decide) (by decide)) true (by decide))
    have HB1 := Lib.hid hb1
    clear hI hb1
    go_wp2_with fail
    refine SM.out.mono ?_; rintro e w2 ⟨rfl, hb2⟩
    have HB2 := Lib.hid (bcall (balloc HB1.out _) hb2)
    clear SM hb2 HB1
    go_wp2_with fail
    refine (IN.out _).mono ?_; rintro e w3 ⟨rfl, rfl⟩
    go_wp2_with fail
    go_ret
    exact ⟨rfl, HB2.out⟩
theorem law_bad (room : Int) (m : Nat) (p : Option Addr) (n cap : Nat) (l : List Int) (w : World) (hn : n = l.length) (hi : Ints w p cap l) (hr0 : 0 ≤ room ∧ room ≤ 1000) (hm1 : 1 ≤ m) (hm5 : m ≤ 5) (a : Int) (ha : a = AimdMath.badR l 20 400) (h0 : a ≠ 0) : Law room (m : Int) p n cap w := by
  have RB := Lib.hid (fun W (hb : Below w.heap.size w W) => Aimd.run_bad p cap n 20 400 l W hn (hi.below hb) a ha h0)
  unfold Law
  have IN := Lib.hid (fun W => int_any (m : Int) 1 5 W true (in_true ⟨by omega, by omega⟩))
  have IN2 := Lib.hid (fun W => int_any room 0 1000 W true (in_true hr0))
  have hg := ones_good hr0 hm5
  obtain ⟨N, r, hr⟩ := runs_exist hg
  have hall := ones_share hr0 hm1 hm5 hr
  obtain ⟨q, hq⟩ : ∃ q, room / (m : Int) = q := ⟨_, rfl⟩
  rw [hq] at hall
  have HALL := Lib.hid hall
  have SH := Lib.hid (fun W p2 cap2 (h2 : RowsI W p2 cap2 (ones m)) => share_good (some ⟨W.heap.size, 0, none⟩) 1 1 [room] p2 cap2 m (ones m) (W.alloc (.cells #[.int .i64 room] 3)) rfl (lit_ints W [room] (by intro x hx; rw [List.mem_singleton.1 hx]; exact wf_small (by omega)) (by simp)) (ones_len m).symm (h2.below (balloc (brefl W) _)) hg N r hr)
  have hqt : room.tdiv (m : Int) = q := by rw [Int.tdiv_eq_ediv_of_nonneg hr0.1]; exact hq
  have hqb : 0 ≤ q ∧ q ≤ 1000 := by
    rw [← hq]
    exact ⟨Int.ediv_nonneg hr0.1 (by omega), Int.le_trans (Int.ediv_le_self _ hr0.1) hr0.2⟩
  clear ha hi hn h0 hg hr hall hq
  go_enter Try.func6, Try.ntmps6
  go_wp2_with fail
  refine (first_any w).mono ?_; rintro e w1 ⟨⟨c, rfl, hI⟩, hb1⟩
  have SM := Lib.hid (ints_any c (some ⟨w1.heap.size, 0, none⟩) 2 2 2 2 [3, 3] [3, 3] (w1.alloc (.cells #[.int .i64 3, .int .i64 3] 3)) rfl rfl (hI.below (balloc (brefl _) _)) (lit_ints w1 [3, 3] (by decide) (by decide)) true (by decide))
  have HB1 := Lib.hid hb1
  clear hI hb1
  go_wp2_with fail
  refine SM.out.mono ?_; rintro e w2 ⟨rfl, hb2⟩
  have HB2 := Lib.hid (bcall (balloc HB1.out _) hb2)
  clear SM hb2 HB1
  go_wp2_with fail
  refine (IN.out _).mono ?_; rintro e w3 ⟨rfl, rfl⟩
  go_wp2_with fail
  refine (IN2.out _).mono ?_; rintro e w3 ⟨rfl, rfl⟩
  obtain ⟨w2, rfl⟩ : ∃ z, z = w3 := ⟨w3, rfl⟩
  go_wp2_with fail
  go_loopw [9, 10] (fun ov iv wr => ∃ (j : Nat) (v : Value), v = ov ∧ iv = .int .i64 j ∧ j ≤ m ∧ Hid (OwnR.OwnR wr w2.heap.size v (ones j)) ∧ Hid (Below w2.heap.size w2 wr)) (fun _ i _ => m - (intOf i).toNat)
  case atStart => exact ⟨0, _, rfl, rfl, Nat.zero_le _, Lib.hid (OwnR.OwnR.nil _ _), Lib.hid (brefl w2)⟩
  case round =>
    obtain ⟨j, v, rfl, rfl, hj, HO, HB⟩ := hrel
    by_cases hjm : j < m
    · have u1 : decide ((j : Int) < (m : Int)) = true := decide_eq_true (by omega)
      have hB0 := HB.out.size
      have HE := Lib.hid (show ones j ++ [[0]] = ones (j + 1) by unfold ones; rw [List.replicate_succ'])
      have HOB := Lib.hid (HO.out.below (balloc (balloc (brefl wr) (.cells #[.int .i64 0] 3)) (.cells #[.slice (some ⟨wr.heap.size, 0, none⟩) 1 1] 22)))
      have HZ := Lib.hid ((lit_ints wr [0] (by decide) (by decide)).below (balloc (brefl _) (.cells #[.slice (some ⟨wr.heap.size, 0, none⟩) 1 1] 22)))
      have HSEP := Lib.hid (show ∀ x : Addr, (some ⟨wr.heap.size, 0, none⟩ : Option Addr) = some x → v.ownBlock ≠ some x.block from fun x hx e => by
        injection hx with hx
        subst hx
        have := (HO.out.lt _ e).2
        simp at this)
      have HJ := Lib.hid (show j ≤ 5 by omega)
      go_wp2_with (first
        | (at_builtin
           refine OwnR.wp_appR rfl (.tmp 46) (.tmp 48) rfl w2.heap.size v (ones j) ⟨wr.heap.size + 1, 0, none⟩ (some ⟨wr.heap.size, 0, none⟩) 1 1 [0] rfl HOB.out rfl (by go_simp) rfl HZ.out (by decide) HSEP.out (by have := HJ.out; rw [ones_len]; omega) (by simp; omega) ?_
           intro v8 w8 ho8 hg8 hat8
           have HB8 := Lib.hid (OwnR.below_appR (balloc (balloc HB.out _) _) HOB.out hg8 (by simp; omega))
           have HO8 := Lib.hid ho8
           clear ho8 hg8 hat8))
      go_roundw
      case rel => exact ⟨j + 1, v8, rfl, by first | rfl | go_num, by omega, by rw [HE.out] at HO8; exact HO8, HB8⟩
      case measure => simp [intOf]; omega
    · obtain rfl : j = m := by omega
      have u1 : decide ((j : Int) < (j : Int)) = false := decide_eq_false (by omega)
      obtain ⟨p2, cap2, hv, hi2⟩ := HO.out.form
      rw [ones_len] at hv
      subst hv
      have S2 := Lib.hid (SH.out wr p2 cap2 hi2)
      have HB3 := Lib.hid (bcall HB2.out HB.out)
      clear hi2 HO HB SH
      go_wp2_with fail
      refine S2.out.mono ?_; rintro e w5 ⟨q5, rfl, ho5, hb5⟩
      have HB5 := Lib.hid (bcall (balloc HB3.out _) hb5)
      have HO5 := Lib.hid ho5
      have u2 : ((j : Int) != (j : Int)) = false := by simp
      clear S2 ho5 hb5
      go_wp2_with fail
      go_loopw [13] (fun iv wr => ∃ i : Nat, i ≤ j ∧ iv = .int .i64 i ∧ Hid (∃ k, wr = w5.drewN k)) (fun i _ => j - (intOf i).toNat)
      case atStart => exact ⟨0, Nat.zero_le _, rfl, Lib.hid ⟨0, rfl⟩⟩
      case round =>
        obtain ⟨i, hij, rfl, HD⟩ := hrel
        have HBW : Hid (Below w.heap.size w wr) := Lib.hid (by obtain ⟨k, e⟩ := HD.out; rw [e]; exact bdrewN HB5.out k)
        by_cases hlt : i < j
        · have v1 : decide ((i : Int) < (j : Int)) = true := decide_eq_true (by omega)
          obtain ⟨gq, cq, hq5, _, _, _, _⟩ := own_pos HO5.out (by rw [lt_len]; omega)
          rw [lt_len] at hq5
          injection hq5 with hq5 e2 e3
          clear e2 e3
          subst hq5
          have hc5 : wr.cell? ⟨gq, i, none⟩ = some (.int .i64 q) := by
            obtain ⟨k, e⟩ := HD.out
            have := own_cell (HO5.out.below (bdrewN (brefl w5) k)) i (by rw [lt_len]; exact hlt)
            rw [lt_get _ _ _ hlt] at this
            rw [e, this]
            show some (Value.int .i64 (r i)) = _
            rw [HALL.out i hlt]
          have v2 : (q != q) = false := by simp
          have hij' : (i : Int) < (j : Int) := by omega
          have hj0 : (j : Int) ≠ 0 := by omega
          have hj1 : j ≠ 0 := by omega
          have hwq := wrap_in (n := q) (by omega)
          have HDN : Hid (∀ nq, ∃ m, wr.drewN nq = w5.drewN m) := Lib.hid fun nq => by obtain ⟨m, e⟩ := HD.out; exact ⟨m + nq, by rw [e, World.drewN_drewN]⟩
          go_wp2_with fail
          go_quiet (fail)
          go_wp2_with fail
          go_roundw
          case rel => exact ⟨i + 1, by omega, by first | rfl | go_num, Lib.hid (HDN.out _)⟩
          case measure => simp [intOf]; omega
        · obtain rfl : i = j := by omega
          have v1 : decide ((i : Int) < (i : Int)) = false := decide_eq_false (by omega)
          clear hqt hqb
          go_wp2_with fail
          refine (RB.out wr HBW.out).mono ?_; rintro e w6 ⟨rfl, rfl⟩
          go_wp2_with fail
          go_ret
          exact ⟨by first | rfl | simp, HBW.out⟩
theorem law_good (room : Int) (m : Nat) (p : Option Addr) (n cap : Nat) (l : List Int) (w : World) (hn : n = l.length) (hi : Ints w p cap l) (hr0 : 0 ≤ room ∧ room ≤ 1000) (hm1 : 1 ≤ m) (hm5 : m ≤ 5) (h0 : AimdMath.badR l 20 400 = 0) : Law room (m : Int) p n cap w := by
  obtain ⟨hbad, _, _⟩ := AimdMath.badR_zero.1 h0
  obtain ⟨hn1, hn5, hf, _, _⟩ := AimdMath.bad_zero.1 hbad
  have hrl : (AimdMath.rates 20 l 400).length = n := by rw [AimdMath.rates_len, hn]
  have hmono : ∀ x y, x ≤ y → AimdMath.F 20 l 400 x ≤ AimdMath.F 20 l 400 y := fun x y h => AimdMath.F_mono h
  have hhi : AimdMath.hi (AimdMath.rates 20 l 400) = AimdMath.F 20 l 400 (AimdMath.hi l) := AimdMath.hi_map hmono hn1
  have hlo : AimdMath.lo (AimdMath.rates 20 l 400) = AimdMath.F 20 l 400 (AimdMath.lo l) := AimdMath.lo_map hmono hn1
  have b1 := AimdMath.fits_all hf _ (AimdMath.hi_mem (l := l) hn1)
  have b2 := AimdMath.fits_all hf _ (AimdMath.lo_mem (l := l) hn1)
  have hnear := (AimdMath.near (room := 20) (l := l) (k := 400) (AimdMath.lo_hi hn1) b2.1 b1.2).2
  have hb3 := AimdMath.F_bound (room := 20) (l := l) (k := 400) b2.1
  have hb4 := AimdMath.F_bound (room := 20) (l := l) (k := 400) b1.1
  have hpos := halved_soon hn1 (AimdMath.fits_all hf)
  have hHle := AimdMath.H_le (room := 20) (l := l) (k := 400)
  have RG := Lib.hid (fun W (hb : Below w.heap.size w W) => Aimd.run_good p cap n 400 20 l W hn (hi.below hb) hbad (by decide))
  have RI := Lib.hid (fun W p' c' (h : Ints W p' c' (AimdMath.rates 20 l 400)) => Rising.rising_any p' c' n (AimdMath.rates 20 l 400) W hrl.symm h (by omega) (by omega))
  rw [hhi, hlo] at RI
  rw [← hn] at hn1 hn5
  have HRL := Lib.hid hrl
  clear hbad hf hrl hmono hhi hlo
  generalize AimdMath.rates 20 l 400 = mm at RG RI HRL
  generalize AimdMath.H 20 l 400 = hv at RG hnear hpos hHle
  generalize AimdMath.F 20 l 400 (AimdMath.hi l) = A at *
  generalize AimdMath.F 20 l 400 (AimdMath.lo l) = B at *
  generalize AimdMath.hi l = a1 at *
  generalize AimdMath.lo l = a2 at *
  have hA : 0 ≤ A ∧ A ≤ 1400 := by omega
  have hBB : 0 ≤ B ∧ B ≤ 1400 := by omega
  have HAB := Lib.hid (And.intro hA hBB)
  have NEAR := Lib.hid hnear
  have HP := Lib.hid (And.intro hpos (And.intro hn1 hn5))
  clear b1 b2 hb3 hb4 hnear hpos hHle hA hBB hn1 hn5
  unfold Law
  have IN := Lib.hid (fun W => int_any (m : Int) 1 5 W true (in_true ⟨by omega, by omega⟩))
  have IN2 := Lib.hid (fun W => int_any room 0 1000 W true (in_true hr0))
  have hg := ones_good hr0 hm5
  obtain ⟨N, r, hr⟩ := runs_exist hg
  have hall := ones_share hr0 hm1 hm5 hr
  obtain ⟨q, hq⟩ : ∃ q, room / (m : Int) = q := ⟨_, rfl⟩
  rw [hq] at hall
  have HALL := Lib.hid hall
  have SH := Lib.hid (fun W p2 cap2 (h2 : RowsI W p2 cap2 (ones m)) => share_good (some ⟨W.heap.size, 0, none⟩) 1 1 [room] p2 cap2 m (ones m) (W.alloc (.cells #[.int .i64 room] 3)) rfl (lit_ints W [room] (by intro x hx; rw [List.mem_singleton.1 hx]; exact wf_small (by omega)) (by simp)) (ones_len m).symm (h2.below (balloc (brefl W) _)) hg N r hr)
  have hqt : room.tdiv (m : Int) = q := by rw [Int.tdiv_eq_ediv_of_nonneg hr0.1]; exact hq
  have hqb : 0 ≤ q ∧ q ≤ 1000 := by
    rw [← hq]
    exact ⟨Int.ediv_nonneg hr0.1 (by omega), Int.le_trans (Int.ediv_le_self _ hr0.1) hr0.2⟩
  clear hi hn h0 hg hr hall hq
  go_enter Try.func6, Try.ntmps6
  go_wp2_with fail
  refine (first_any w).mono ?_; rintro e w1 ⟨⟨c, rfl, hI⟩, hb1⟩
  have SM := Lib.hid (ints_any c (some ⟨w1.heap.size, 0, none⟩) 2 2 2 2 [3, 3] [3, 3] (w1.alloc (.cells #[.int .i64 3, .int .i64 3] 3)) rfl rfl (hI.below (balloc (brefl _) _)) (lit_ints w1 [3, 3] (by decide) (by decide)) true (by decide))
  have HB1 := Lib.hid hb1
  clear hI hb1
  go_wp2_with fail
  refine SM.out.mono ?_; rintro e w2 ⟨rfl, hb2⟩
  have HB2 := Lib.hid (bcall (balloc HB1.out _) hb2)
  clear SM hb2 HB1
  go_wp2_with fail
  refine (IN.out _).mono ?_; rintro e w3 ⟨rfl, rfl⟩
  go_wp2_with fail
  refine (IN2.out _).mono ?_; rintro e w3 ⟨rfl, rfl⟩
  obtain ⟨w2, rfl⟩ : ∃ z, z = w3 := ⟨w3, rfl⟩
  go_wp2_with fail
  go_loopw [9, 10] (fun ov iv wr => ∃ (j : Nat) (v : Value), v = ov ∧ iv = .int .i64 j ∧ j ≤ m ∧ Hid (OwnR.OwnR wr w2.heap.size v (ones j)) ∧ Hid (Below w2.heap.size w2 wr)) (fun _ i _ => m - (intOf i).toNat)
  case atStart => exact ⟨0, _, rfl, rfl, Nat.zero_le _, Lib.hid (OwnR.OwnR.nil _ _), Lib.hid (brefl w2)⟩
  case round =>
    obtain ⟨j, v, rfl, rfl, hj, HO, HB⟩ := hrel
    by_cases hjm : j < m
    · have u1 : decide ((j : Int) < (m : Int)) = true := decide_eq_true (by omega)
      have hB0 := HB.out.size
      have HE := Lib.hid (show ones j ++ [[0]] = ones (j + 1) by unfold ones; rw [List.replicate_succ'])
      have HOB := Lib.hid (HO.out.below (balloc (balloc (brefl wr) (.cells #[.int .i64 0] 3)) (.cells #[.slice (some ⟨wr.heap.size, 0, none⟩) 1 1] 22)))
      have HZ := Lib.hid ((lit_ints wr [0] (by decide) (by decide)).below (balloc (brefl _) (.cells #[.slice (some ⟨wr.heap.size, 0, none⟩) 1 1] 22)))
      have HSEP := Lib.hid (show ∀ x : Addr, (some ⟨wr.heap.size, 0, none⟩ : Option Addr) = some x → v.ownBlock ≠ some x.block from fun x hx e => by
        injection hx with hx
        subst hx
        have := (HO.out.lt _ e).2
        simp at this)
      have HJ := Lib.hid (show j ≤ 5 by omega)
      go_wp2_with (first
        | (at_builtin
           refine OwnR.wp_appR rfl (.tmp 46) (.tmp 48) rfl w2.heap.size v (ones j) ⟨wr.heap.size + 1, 0, none⟩ (some ⟨wr.heap.size, 0, none⟩) 1 1 [0] rfl HOB.out rfl (by go_simp) rfl HZ.out (by decide) HSEP.out (by have := HJ.out; rw [ones_len]; omega) (by simp; omega) ?_
           intro v8 w8 ho8 hg8 hat8
           have HB8 := Lib.hid (OwnR.below_appR (balloc (balloc HB.out _) _) HOB.out hg8 (by simp; omega))
           have HO8 := Lib.hid ho8
           clear ho8 hg8 hat8))
      go_roundw
      case rel => exact ⟨j + 1, v8, rfl, by first | rfl | go_num, by omega, by rw [HE.out] at HO8; exact HO8, HB8⟩
      case measure => simp [intOf]; omega
    · obtain rfl : j = m := by omega
      have u1 : decide ((j : Int) < (j : Int)) = false := decide_eq_false (by omega)
      obtain ⟨p2, cap2, hv, hi2⟩ := HO.out.form
      rw [ones_len] at hv
      subst hv
      have S2 := Lib.hid (SH.out wr p2 cap2 hi2)
      have HB3 := Lib.hid (bcall HB2.out HB.out)
      clear hi2 HO HB SH
      go_wp2_with fail
      refine S2.out.mono ?_; rintro e w5 ⟨q5, rfl, ho5, hb5⟩
      have HB5 := Lib.hid (bcall (balloc HB3.out _) hb5)
      have HO5 := Lib.hid ho5
      have u2 : ((j : Int) != (j : Int)) = false := by simp
      clear S2 ho5 hb5
      go_wp2_with fail
      go_loopw [13] (fun iv wr => ∃ i : Nat, i ≤ j ∧ iv = .int .i64 i ∧ Hid (∃ k, wr = w5.drewN k)) (fun i _ => j - (intOf i).toNat)
      case atStart => exact ⟨0, Nat.zero_le _, rfl, Lib.hid ⟨0, rfl⟩⟩
      case round =>
        obtain ⟨i, hij, rfl, HD⟩ := hrel
        have HBW : Hid (Below w.heap.size w wr) := Lib.hid (by obtain ⟨k, e⟩ := HD.out; rw [e]; exact bdrewN HB5.out k)
        by_cases hlt : i < j
        · have v1 : decide ((i : Int) < (j : Int)) = true := decide_eq_true (by omega)
          obtain ⟨gq, cq, hq5, _, _, _, _⟩ := own_pos HO5.out (by rw [lt_len]; omega)
          rw [lt_len] at hq5
          injection hq5 with hq5 e2 e3
          clear e2 e3
          subst hq5
          have hc5 : wr.cell? ⟨gq, i, none⟩ = some (.int .i64 q) := by
            obtain ⟨k, e⟩ := HD.out
            have := own_cell (HO5.out.below (bdrewN (brefl w5) k)) i (by rw [lt_len]; exact hlt)
            rw [lt_get _ _ _ hlt] at this
            rw [e, this]
            show some (Value.int .i64 (r i)) = _
            rw [HALL.out i hlt]
          have v2 : (q != q) = false := by simp
          have hij' : (i : Int) < (j : Int) := by omega
          have hj0 : (j : Int) ≠ 0 := by omega
          have hj1 : j ≠ 0 := by omega
          have hwq := wrap_in (n := q) (by omega)
          have HDN : Hid (∀ nq, ∃ m, wr.drewN nq = w5.drewN m) := Lib.hid fun nq => by obtain ⟨m, e⟩ := HD.out; exact ⟨m + nq, by rw [e, World.drewN_drewN]⟩
          go_wp2_with fail
          go_quiet (fail)
          go_wp2_with fail
          go_roundw
          case rel => exact ⟨i + 1, by omega, by first | rfl | go_num, Lib.hid (HDN.out _)⟩
          case measure => simp [intOf]; omega
        · obtain rfl : i = j := by omega
          have v1 : decide ((i : Int) < (i : Int)) = false := decide_eq_false (by omega)
          clear hqt hqb
          go_wp2_with fail
          refine (RG.out wr HBW.out).mono ?_; rintro e w6 ⟨⟨v6, rfl, ho6⟩, hb6⟩
          have HB6 := Lib.hid (bcall HBW.out hb6)
          obtain ⟨vp, vc, rfl, hvi⟩ := ho6.form
          rw [HRL.out]
          have C := Lib.hid (RI.out _ _ _ hvi)
          clear ho6 hb6 hvi RG RI
          go_wp2_with fail
          refine C.out.mono ?_; rintro e w7 ⟨⟨v7, r7, rfl, ho7, hl7, h70, h71⟩, hb7⟩
          have HB7 := Lib.hid (bcall HB6.out hb7)
          obtain ⟨g7, c7, hv7, _, _, hc71, hc72⟩ := own_pos ho7 (by have := HP.out; omega)
          rw [hl7] at hv7 hc71
          subst hv7
          obtain ⟨k7, hk7⟩ : ∃ k : Nat, n = k + 1 := ⟨n - 1, by have := HP.out; omega⟩
          have c0 := own_cell ho7 0 (by have := HP.out; omega)
          have ck := own_cell ho7 k7 (by omega)
          rw [h70] at c0
          rw [show k7 = n - 1 by omega, h71, ← show k7 = n - 1 by omega] at ck
          have hnk : (n : Int) - 1 = (k7 : Int) := by omega
          have hkn : (k7 : Int) < (n : Int) := by omega
          have hn0 : (0 : Int) < (n : Int) := by omega
          have hwk := wrap_in (n := (n : Int) - 1) (by omega)
          rw [hnk] at hwk
          have tn : ((n : Int) == (n : Int)) = true := by simp
          have th : decide ((hv : Int) > 0) = true := decide_eq_true (by have := HP.out; omega)
          have th2 : 0 < hv := HP.out.1
          obtain ⟨I, hI⟩ : ∃ I, A - B = I := ⟨_, rfl⟩
          have hwI := wrap_in (n := A - B) (by have := HAB.out; omega)
          rw [hI] at hwI
          have HI := Lib.hid hI
          clear ho7 hl7 h70 h71 hb7 C hk7
          by_cases h10 : hv < 10
          · have t10 : decide ((hv : Int) < 10) = true := decide_eq_true (by omega)
            clear c0 ck hwI hI
            go_wp2_with fail
            go_quiet (fail)
            go_wp2_with fail
            go_ret
            exact ⟨by first | rfl | simp, bdrewN HB7.out _⟩
          · have t10 : decide ((hv : Int) < 10) = false := decide_eq_false (by omega)
            have ti : decide (I ≤ 1) = true := decide_eq_true (by rw [← HI.out]; exact NEAR.out (by omega))
            go_wp2_with fail
            go_quiet (fail)
            go_wp2_with fail
            go_ret
            exact ⟨by first | rfl | simp, bdrewN HB7.out _⟩

theorem reads : Try.f6.params.toList.all (fun t => Try.prog.readableRec t && decide (t < Try.prog.types.size)) = true := by kernel_rfl

theorem contract (H : Type) (enc : TypeId × Value → H) (W : World) (base : Nat) (args : Array Value) (ds gs : List (DataW H)) (before : List MemPlace)
    (hval : ∀ (j : Nat) t v, Try.f6.params[j]? = some t → args[j]? = some v → Value.okWide Try.prog W .any base t v)
    (hW : DataW.Whole enc Try.prog Try.f6.params.toList Rows.topSharesSpec.vars false W args.toList ds gs before) :
    Calls Try.prog 6 args W fun e W' => ∃ v, e = .returned v ∧ Rows.topSharesSpec.post enc Try.prog Try.f6 false true false false W args v W' := by
  have hW' := hW
  obtain ⟨p, q, hA0, hV, rfl, hfz, hnd⟩ := hW
  have hA : DataW.TrodAll enc Try.prog W 0 (fun _ => true) true Try.f6.params.toList args.toList ds p := hA0
  have hlt := hA.lt
  rw [Try.params6] at hA hval
  obtain ⟨v0, vs0, d0, ds0, p0, q0, hargs, rfl, rfl, h0, r0⟩ := trodAll_cons hA
  obtain ⟨v1, vs1, d1, ds1, p1, q1, hvs1, rfl, rfl, h1, r1⟩ := trodAll_cons r0
  obtain ⟨v2, vs2, d2, ds2, p2, q2, hvs2, rfl, rfl, h2, r2⟩ := trodAll_cons r1
  obtain ⟨hvsn, rfl, rfl⟩ := trodAll_nil r2
  simp only [hvsn, hvs2, hvs1] at hargs
  obtain rfl : args = #[v0, v1, v2] := by cases args; simp_all
  obtain ⟨rfl, rfl⟩ := trodVars_none hV
  clear hA0
  obtain ⟨a0, rfl, rfl, rfl, w0⟩ := open_int Try.underlying3 (hval 0 3 v0 rfl rfl) h0
  have b0 := bounds_int w0
  obtain ⟨a1, rfl, rfl, rfl, w1⟩ := open_int Try.underlying3 (hval 1 3 v1 rfl rfl) h1
  have b1 := bounds_int w1
  obtain ⟨p2a, cap2, l2, rfl, i2⟩ := open_intsl Try.underlying22 Try.underlying3 (by kernel_rfl) (hval 2 22 v2 rfl rfl) h2 (fun x hx => hlt x (by simp [hx]))
  exact law_post 4 laid reads rfl Try.underlying4 rfl hW' ⟨rfl, rfl, rfl⟩ (by
    by_cases h : (1 ≤ a1 ∧ a1 ≤ 5) ∧ (0 ≤ a0 ∧ a0 ≤ 1000)
    · obtain ⟨m, rfl⟩ : ∃ m : Nat, a1 = (m : Int) := ⟨a1.toNat, by omega⟩
      by_cases hb : AimdMath.badR l2 20 400 = 0
      · exact law_good a0 m _ _ _ l2 W rfl i2 h.2 (by omega) (by omega) hb
      · exact law_bad a0 m _ _ _ l2 W rfl i2 h.2 (by omega) (by omega) _ rfl hb
    · exact law_out _ _ _ _ _ W h)

set_option maxRecDepth 100000 in
theorem lifted (os : Os) (started : os.Started) (H : Type) (enc : TypeId × Value → H) :
    ReturnsInHanded {} Try.checked os 6 .any (Rows.topSharesSpec.pre6 enc Try.prog Try.f6 Rows.topSharesRow.domain false) (Rows.topSharesSpec.post enc Try.prog Try.f6 false true false false) := by
  refine returnsInHanded_of_change (C := Try.checked) own started (by kernel_rfl) Try.func6
    (ChangeSpec.witness6 (enc := enc) (C := Try.checked) false ⟨#[], #[.int .i64 0, .int .i64 0, .slice none 0 0], []⟩ 8 (by kernel_rfl) (by kernel_rfl) (by kernel_rfl) (by kernel_rfl)) ?_
  intro W base args ds gs before hval hW _ _
  exact contract H enc W base args ds gs before hval hW

theorem proved : Rows.TopSharesSaid :=
  OpenClaim.holds_of_wide 6 Try.f6 rfl rfl rfl rfl rfl rfl rfl ⟨rfl, rfl, rfl, rfl, rfl⟩ rfl rfl rfl rfl rfl (by kernel_rfl) Try.func6 (by kernel_rfl)
    (of_decide_eq_true (by kernel_rfl)) (by unfold Func.isWrapper; first | (rw [if_pos (by decide +kernel)]; kernel_rfl) | (rw [if_neg (by decide +kernel)]; exact ⟨rfl, rfl⟩))
    (fun os started H enc _ => lifted os started H enc)
end Go.Proofs.Ytggnpecmldnmnaa.TopSharesL
