/- Package aimd: Check, sum, the closures of Run, slices.Clone, Max and Min. No statement is proved here. -/
import Derived.Test.YtggnpecmldnmnaaAimdMath
import Derived.Test.YtggnpecmldnmnaaErr
import Derived.Test.YtggnpecmldnmnaaSub
namespace Go.Proofs.Ytggnpecmldnmnaa.Aimd
open Go.ChangeShapes Go.WideShapes Go.ChangeAt Go.RowKit Go.Proofs.Ytggnpecmldnmnaa.Kit Go.Proofs.Ytggnpecmldnmnaa.App Go.Proofs.Ytggnpecmldnmnaa.Err Go.Proofs.Ytggnpecmldnmnaa.AimdMath
set_option linter.unusedVariables false
set_option maxRecDepth 20000

theorem er_ne {c : Int} (h : c ≠ 0) : er c = .iface 46 (.int .i64 c) := by unfold er; rw [if_neg h]
theorem wf_in {x : Int} (h : -9223372036854775808 ≤ x ∧ x ≤ 9223372036854775807) : (Lit.int .i64 x).wf = true := by
  simp [Lit.wf, IntKind.min, IntKind.max, IntKind.signed, IntKind.bits]; omega

theorem out_any (x : Int) (w : World) (R : Bool) (hR : R = fit x) :
    Calls Try.prog 31 #[.int .i64 x] w fun e w' => e = .returned (.bool (!R)) ∧ w = w' := by
  by_cases h1 : 0 ≤ x
  · have t1 : decide (x < 0) = false := decide_eq_false (by omega)
    have hd : R = decide (x ≤ 1000) := by rw [hR]; unfold fit; rw [decide_eq_true h1]; rfl
    clear hR
    by_cases h2 : x ≤ 1000
    · have t2 : decide (x > 1000) = false := decide_eq_false (by omega)
      have hR : R = true := by rw [hd, decide_eq_true h2]
      clear hd
      subst hR
      go_enter Try.func31, Try.ntmps31
      go_wp2_with fail
      go_ret
      exact ⟨rfl, rfl⟩
    · have t2 : decide (x > 1000) = true := decide_eq_true (by omega)
      have hR : R = false := by rw [hd, decide_eq_false h2]
      clear hd
      subst hR
      go_enter Try.func31, Try.ntmps31
      go_wp2_with fail
      go_ret
      exact ⟨rfl, rfl⟩
  · have t1 : decide (x < 0) = true := decide_eq_true (by omega)
    have hR2 : R = false := by rw [hR]; unfold fit; rw [decide_eq_false h1]; rfl
    clear hR
    subst hR2
    go_enter Try.func31, Try.ntmps31
    go_wp2_with fail
    go_ret
    exact ⟨rfl, rfl⟩

set_option maxHeartbeats 1000000 in
theorem index_any (p : Option Addr) (cap n : Nat) (l : List Int) (w : World) (hn : n = l.length) (hi : Ints w p cap l) (hl : l.length ≤ 1000) :
    Calls Try.prog 30 #[.slice p n cap, .func (.func 31) #[] #[]] w fun e w' => (∃ r : Int, e = .returned (.int .i64 r) ∧ decide (r ≥ 0) = !fits l) ∧ w' = w := by
  have hlen := hi.len_le
  have HI := Lib.hid hi
  have OU := Lib.hid out_any
  have HN := Lib.hid hn
  clear hi
  rw [← hn] at hl hlen
  clear hn
  go_enter Try.func30, Try.ntmps30
  go_wp2_with fail
  go_loopw [8] (fun iv wr => ∃ k : Nat, k ≤ n ∧ iv = .int .i64 k ∧ wr = w ∧ Hid (∀ j : Nat, j < k → fit (l[j]?.getD 0) = true)) (fun i _ => n - (intOf i).toNat)
  case atStart => exact ⟨0, Nat.zero_le _, rfl, rfl, fun j hj => absurd hj (Nat.not_lt_zero _)⟩
  case round =>
    obtain ⟨k, hk, rfl, rfl, H⟩ := hrel
    by_cases hlt : k < n
    · have hkl : k < l.length := by rw [← HN.out]; exact hlt
      obtain ⟨b, off, rfl, _, hc⟩ := HI.out.2.2.2 (by omega)
      have hck := hc k hkl
      clear hc
      have HK := Lib.hid hkl
      clear hkl
      obtain ⟨x, hx⟩ : ∃ x, l[k]?.getD 0 = x := ⟨_, rfl⟩
      rw [hx] at hck
      have Hx := Lib.hid hx
      clear hx
      obtain ⟨R, hR⟩ : ∃ R, R = fit x := ⟨_, rfl⟩
      have C := Lib.hid (fun W => OU.out x W R hR)
      have HR := Lib.hid hR
      clear hR
      cases R with
      | true =>
        go_wp2_with fail
        refine (C.out _).mono ?_; rintro e w1 ⟨rfl, rfl⟩
        go_wp2_with fail
        go_roundw
        case rel => exact ⟨k + 1, by omega, by first | rfl | go_num, by first | trivial | rfl, fun j hj => by
          by_cases e : j = k
          · rw [e, Hx.out]; exact HR.out.symm
          · exact H.out j (by omega)⟩
        case measure => simp [intOf]; omega
      | false =>
        go_wp2_with fail
        refine (C.out _).mono ?_; rintro e w1 ⟨rfl, rfl⟩
        go_wp2_with fail
        go_ret
        exact ⟨⟨k, rfl, by rw [fits_false HK.out (by rw [Hx.out]; exact HR.out.symm), decide_eq_true (by omega)]; rfl⟩, rfl⟩
    · obtain rfl : k = n := by omega
      go_wp2_with fail
      go_ret
      exact ⟨⟨-1, rfl, by rw [fits_of (fun j hj => H.out j (by rw [HN.out]; exact hj))]; rfl⟩, rfl⟩
theorem contains_any (p : Option Addr) (cap n : Nat) (l : List Int) (w : World) (hn : n = l.length) (hi : Ints w p cap l) (hl : l.length ≤ 1000) (R : Bool) (hR : R = fits l) :
    Calls Try.prog 22 #[.slice p n cap, .func (.func 31) #[] #[]] w fun e w' => e = .returned (.bool (!R)) ∧ w' = w := by
  subst hR
  have IX := Lib.hid (index_any p cap n l w hn hi hl)
  clear hi hl hn
  go_enter Try.func22, Try.ntmps22
  go_wp2_with fail
  refine IX.out.mono ?_; rintro e w1 ⟨⟨r, rfl, hr⟩, rfl⟩
  have HR := Lib.hid hr
  clear hr IX
  go_wp2_with fail
  go_ret
  exact ⟨by rw [← HR.out]; rfl, rfl⟩

set_option maxHeartbeats 1000000 in
theorem check_any (p : Option Addr) (cap n : Nat) (room : Int) (l : List Int) (w : World) (hn : n = l.length) (hi : Ints w p cap l) (c : Int) (hc : c = bad l room) :
    Calls Try.prog 23 #[.slice p n cap, .int .i64 room] w fun e w' => e = .returned (er c) ∧ w' = w := by
  have hlen := hi.len_le
  rw [← hn] at hlen
  unfold bad at hc
  rw [← hn] at hc
  by_cases h0 : n = 0
  · have t0 : ((n : Int) == 0) = true := by rw [beq_iff_eq]; omega
    rw [if_pos h0] at hc
    subst hc
    rw [er_5]
    clear hn hi h0
    go_enter Try.func23, Try.ntmps23
    go_wp2_with fail
    go_ret
    exact ⟨rfl, rfl⟩
  have t0 : ((n : Int) == 0) = false := by rw [beq_eq_false_iff_ne]; omega
  rw [if_neg h0] at hc
  by_cases h1 : 5 < n
  · have t1 : decide ((n : Int) > 5) = true := decide_eq_true (by omega)
    rw [if_pos h1] at hc
    subst hc
    rw [er_4]
    clear hn hi h0
    go_enter Try.func23, Try.ntmps23
    go_wp2_with fail
    go_ret
    exact ⟨rfl, rfl⟩
  have t1 : decide ((n : Int) > 5) = false := decide_eq_false (by omega)
  rw [if_neg h1] at hc
  obtain ⟨R, hR⟩ : ∃ R, R = fits l := ⟨_, rfl⟩
  rw [← hR] at hc
  have CT := Lib.hid (contains_any p cap n l w hn hi (by rw [← hn]; omega) R hR)
  clear hR hn hi h0 h1
  cases R with
  | false =>
    have hc0 : c = 1 := by rw [hc, if_neg (fun h => by cases h.1)]
    clear hc
    subst hc0
    rw [er_1]
    go_enter Try.func23, Try.ntmps23
    go_wp2_with fail
    refine CT.out.mono ?_; rintro e w1 ⟨rfl, rfl⟩
    go_wp2_with fail
    go_ret
    exact ⟨rfl, rfl⟩
  | true =>
    by_cases h2 : 1 ≤ room
    · have t2 : decide (room < 1) = false := decide_eq_false (by omega)
      by_cases h3 : room ≤ 1000
      · have t3 : decide (room > 1000) = false := decide_eq_false (by omega)
        have hc0 : c = 0 := by rw [hc, if_pos ⟨rfl, h2, h3⟩]
        clear hc
        subst hc0
        rw [er_0]
        go_enter Try.func23, Try.ntmps23
        go_wp2_with fail
        refine CT.out.mono ?_; rintro e w1 ⟨rfl, rfl⟩
        go_wp2_with fail
        go_ret
        exact ⟨rfl, rfl⟩
      · have t3 : decide (room > 1000) = true := decide_eq_true (by omega)
        have hc0 : c = 1 := by rw [hc, if_neg (fun h => h3 h.2.2)]
        clear hc
        subst hc0
        rw [er_1]
        go_enter Try.func23, Try.ntmps23
        go_wp2_with fail
        refine CT.out.mono ?_; rintro e w1 ⟨rfl, rfl⟩
        go_wp2_with fail
        go_ret
        exact ⟨rfl, rfl⟩
    · have t2 : decide (room < 1) = true := decide_eq_true (by omega)
      have hc0 : c = 1 := by rw [hc, if_neg (fun h => h2 h.2.1)]
      clear hc
      subst hc0
      rw [er_1]
      go_enter Try.func23, Try.ntmps23
      go_wp2_with fail
      refine CT.out.mono ?_; rintro e w1 ⟨rfl, rfl⟩
      go_wp2_with fail
      go_ret
      exact ⟨rfl, rfl⟩

set_option maxHeartbeats 1000000 in
theorem sum_any (p : Option Addr) (cap n : Nat) (l : List Int) (w : World) (hn : n = l.length) (hi : Ints w p cap l) (hl : l.length ≤ 5) (hb : ∀ x ∈ l, 0 ≤ x ∧ x ≤ 10000) :
    Calls Try.prog 25 #[.slice p n cap] w fun e w' => e = .returned (.int .i64 l.sum) ∧ w' = w := by
  have hlen := hi.len_le
  rw [← hn] at hlen hl
  have HI := Lib.hid hi
  have HN := Lib.hid hn
  have HB := Lib.hid hb
  clear hi hn hb
  go_enter Try.func25, Try.ntmps25
  go_wp2_with fail
  go_loopw [3, 8] (fun tv iv wr => ∃ k : Nat, ∃ t : Int, k ≤ n ∧ iv = .int .i64 k ∧ tv = .int .i64 t ∧ wr = w ∧ 0 ≤ t ∧ t ≤ 10000 * k ∧ Hid (t = (l.take k).sum)) (fun _ i _ => n - (intOf i).toNat)
  case atStart => exact ⟨0, 0, Nat.zero_le _, rfl, rfl, rfl, by omega, by omega, Lib.hid (by simp)⟩
  case round =>
    obtain ⟨k, t, hk, rfl, rfl, rfl, ht0, ht1, HT⟩ := hrel
    by_cases hlt : k < n
    · have hkl : k < l.length := by rw [← HN.out]; exact hlt
      obtain ⟨b, off, rfl, _, hc⟩ := HI.out.2.2.2 (by omega)
      have hck := hc k hkl
      have hx2 := HB.out (l[k]?.getD 0) (by rw [List.getElem?_eq_getElem hkl]; exact List.getElem_mem hkl)
      have HS := Lib.hid (take_sum l k hkl)
      clear hc hkl
      obtain ⟨x, hx⟩ : ∃ x, l[k]?.getD 0 = x := ⟨_, rfl⟩
      rw [hx] at hck hx2 HS
      clear hx
      have hw := wrap_in (n := t + x) (by omega)
      go_wp2_with fail
      go_roundw
      case rel => exact ⟨k + 1, t + x, by omega, by first | rfl | go_num, by first | rfl | rw [hw] | go_num, by first | trivial | rfl, by omega, by omega, Lib.hid (by rw [HS.out, HT.out])⟩
      case measure => simp [intOf]; omega
    · obtain rfl : k = n := by omega
      have hT : t = l.sum := by rw [HT.out, List.take_of_length_le (by rw [← HN.out]; exact Nat.le_refl _)]
      clear HT
      subst hT
      go_wp2_with fail
      go_ret
      exact ⟨rfl, rfl⟩

theorem half_any (x : Int) (w : World) (hx : 0 ≤ x ∧ x ≤ 10000) (y : Int) (hy : x / 2 = y) :
    Calls Try.prog 26 #[.int .i64 x] w fun e w' => e = .returned (.int .i64 y) ∧ w' = w := by
  have hq : x.tdiv 2 = y := by rw [Int.tdiv_eq_ediv_of_nonneg hx.1]; exact hy
  have hw := wrap_in (n := y) (by omega)
  clear hy
  go_enter Try.func26, Try.ntmps26
  go_wp2_with fail
  go_ret
  exact ⟨by first | rfl | rw [hq] | rw [hq, hw], rfl⟩
theorem more_any (x : Int) (w : World) (hx : 0 ≤ x ∧ x ≤ 10000) (y : Int) (hy : x + 1 = y) :
    Calls Try.prog 27 #[.int .i64 x] w fun e w' => e = .returned (.int .i64 y) ∧ w' = w := by
  have hw := wrap_in (n := x + 1) (by omega)
  go_enter Try.func27, Try.ntmps27
  go_wp2_with fail
  go_ret
  exact ⟨by first | rfl | rw [hy] | rw [hw, hy] | (rw [← hy]; go_num), rfl⟩

theorem clone_any (a : Addr) (n c : Nat) (l : List Int) (w : World) (hn : n = l.length) (hc : Ints w (some a) c l) (h40 : l.length ≤ 1000) :
    Calls Try.prog 18 #[.slice (some a) n c] w fun e w' => ∃ v, e = .returned v ∧ OwnI w' w.heap.size v l ∧ Below w.heap.size w w' := by
  subst hn
  have q1 : ∀ (w : World) (a : Option Addr) (n c n' c' : Nat), (binOp .eql 22 (.slice a n c) (.slice none n' c')).run Try.prog w = .ok (.bool a.isNone) w := fun w a n c n' c' => Lib.run_eql_slice_nil w _ _ a n c n' c' Try.underlying22
  have hown : OwnI (w.alloc (.cells #[] 3)) w.heap.size (.slice (some ⟨w.heap.size, 0, none⟩) 0 0) [] := ⟨World.ownsRow_made w #[] 0 (Nat.le_refl _) (Nat.zero_le _) (by simp), by simp⟩
  go_enter Try.func18, Try.ntmps18
  go_wp2_with (at_builtin
               refine wp_app rfl (.tmp 5) (.tmp 6) rfl w.heap.size _ [] (some a) c l.length l rfl hown rfl rfl (hc.below (balloc (brefl w) _)) (by simp; omega) (by simp) ?_
               intro v1 wa hown1 hg1 hat1
               have hb1 : Below w.heap.size w wa := below_app (balloc (brefl w) _) hown hg1 (by simp)
               clear hat1 hg1)
  go_ret
  exact ⟨_, rfl, by simpa using hown1, hb1⟩
end Go.Proofs.Ytggnpecmldnmnaa.Aimd
