/- Package drr: wrong, slices.ContainsFunc, Check. No statement is proved here. -/
import Derived.Test.YtckfobkkjiiheaaDrrCode
import Derived.Test.YtckfobkkjiiheaaRows0
import Derived.Test.YtckfobkkjiiheaaErr
import Derived.Test.YtckfobkkjiiheaaSub
import Derived.BigQuiet
import Derived.RegionTactic
namespace Go.Proofs.Ytckfobkkjiiheaa.Drr
open Go.ChangeShapes Go.WideShapes Go.ChangeAt Go.RowKit Go.Proofs.Ytckfobkkjiiheaa.Kit Go.Proofs.Ytckfobkkjiiheaa.App Go.Proofs.Ytckfobkkjiiheaa.Err
set_option linter.unusedVariables false
set_option maxRecDepth 20000
set_option maxHeartbeats 1000000

theorem er_ne {c : Int} (h : c ≠ 0) : er c = .iface 40 (.int .i64 c) := by unfold er; rw [if_neg h]
theorem wrong_any (x : Int) (w : World) (R : Bool) (hR : R = fit1 x) :
    Calls Try.prog 22 #[.int .i64 x] w fun e w' => e = .returned (.bool (!R)) ∧ w = w' := by
  by_cases h1 : 1 ≤ x
  · have t1 : decide (x < 1) = false := decide_eq_false (by omega)
    by_cases h2 : x ≤ 20
    · have t2 : decide (x > 20) = false := decide_eq_false (by omega)
      obtain rfl : R = true := by rw [hR]; exact fit1_iff.2 ⟨h1, h2⟩
      clear hR
      go_enter Try.func22, Try.ntmps22
      go_wp2_with fail
      go_ret
      exact ⟨rfl, rfl⟩
    · have t2 : decide (x > 20) = true := decide_eq_true (by omega)
      obtain rfl : R = false := by rw [hR]; exact fit1_not.2 (fun h => h2 h.2)
      clear hR
      go_enter Try.func22, Try.ntmps22
      go_wp2_with fail
      go_ret
      exact ⟨rfl, rfl⟩
  · have t1 : decide (x < 1) = true := decide_eq_true (by omega)
    obtain rfl : R = false := by rw [hR]; exact fit1_not.2 (fun h => h1 h.1)
    clear hR
    go_enter Try.func22, Try.ntmps22
    go_wp2_with fail
    go_ret
    exact ⟨rfl, rfl⟩

theorem index_any (p : Option Addr) (cap n : Nat) (l : List Int) (w : World) (hn : n = l.length) (hi : Ints w p cap l) (hl : l.length ≤ 1000) :
    Calls Try.prog 39 #[.slice p n cap, .func (.func 22) #[] #[]] w fun e w' => (∃ r : Int, e = .returned (.int .i64 r) ∧ decide (r ≥ 0) = !fits l) ∧ w' = w := by
  have hlen := hi.len_le
  have HI := Lib.hid hi
  have OU := Lib.hid wrong_any
  have HN := Lib.hid hn
  clear hi
  rw [← hn] at hl hlen
  clear hn
  go_enter Try.func39, Try.ntmps39
  go_wp2_with fail
  go_loopw [8] (fun iv wr => ∃ k : Nat, k ≤ n ∧ iv = .int .i64 k ∧ wr = w ∧ Hid (∀ j : Nat, j < k → fit1 (l[j]?.getD 0) = true)) (fun i _ => n - (intOf i).toNat)
  case atStart => exact ⟨0, Nat.zero_le _, rfl, rfl, fun j hj => absurd hj (Nat.not_lt_zero _)⟩
  case round =>
    obtain ⟨k, hk, rfl, rfl, H⟩ := hrel
    by_cases hlt : k < n
    · have hkl : k < l.length := by rw [← HN.out]; exact hlt
      obtain ⟨b, off, rfl, _, hc⟩ := HI.out.2.2.2 (by omega)
      have hck := hc k hkl
      clear hc
      have HK := Lib.hid hkl
      clear hkl
      obtain ⟨x, hx⟩ : ∃ x, l[k]?.getD 0 = x := ⟨_, rfl⟩
      rw [hx] at hck
      have Hx := Lib.hid hx
      clear hx
      obtain ⟨R, hR⟩ : ∃ R, R = fit1 x := ⟨_, rfl⟩
      have C := Lib.hid (fun W => OU.out x W R hR)
      have HR := Lib.hid hR
      clear hR
      cases R with
      | true =>
        go_wp2_with fail
        refine (C.out _).mono ?_; rintro e w1 ⟨rfl, rfl⟩
        go_wp2_with fail
        go_roundw
        case rel => exact ⟨k + 1, by omega, by first | rfl | go_num, by first | trivial | rfl, fun j hj => by
          by_cases e : j = k
          · rw [e, Hx.out]; exact HR.out.symm
          · exact H.out j (by omega)⟩
        case measure => simp [intOf]; omega
      | false =>
        go_wp2_with fail
        refine (C.out _).mono ?_; rintro e w1 ⟨rfl, rfl⟩
        go_wp2_with fail
        go_ret
        exact ⟨⟨k, rfl, by rw [fits_false HK.out (by rw [Hx.out]; exact HR.out.symm), decide_eq_true (by omega)]; rfl⟩, rfl⟩
    · obtain rfl : k = n := by omega
      go_wp2_with fail
      go_ret
      exact ⟨⟨-1, rfl, by rw [fits_of (fun j hj => H.out j (by rw [HN.out]; exact hj))]; rfl⟩, rfl⟩
theorem contains_any (p : Option Addr) (cap n : Nat) (l : List Int) (w : World) (hn : n = l.length) (hi : Ints w p cap l) (hl : l.length ≤ 1000) (R : Bool) (hR : R = fits l) :
    Calls Try.prog 31 #[.slice p n cap, .func (.func 22) #[] #[]] w fun e w' => e = .returned (.bool (!R)) ∧ w' = w := by
  subst hR
  have IX := Lib.hid (index_any p cap n l w hn hi hl)
  clear hi hl hn
  go_enter Try.func31, Try.ntmps31
  go_wp2_with fail
  refine IX.out.mono ?_; rintro e w1 ⟨⟨r, rfl, hr⟩, rfl⟩
  have HR := Lib.hid hr
  clear hr IX
  go_wp2_with fail
  go_ret
  exact ⟨by rw [← HR.out]; rfl, rfl⟩

theorem check_any (p : Option Addr) (cap n : Nat) (qs : List (List Int)) (w : World) (hn : n = qs.length) (hi : RowsI w p cap qs) (c : Int) (hc : code qs = c) :
    Calls Try.prog 21 #[.slice p n cap] w fun e w' => e = .returned (er c) ∧ w' = w := by
  have hlen := hi.len_le
  rw [← hn] at hlen
  unfold code at hc
  rw [← hn] at hc
  by_cases h5 : 5 < n
  · have t1 : decide ((n : Int) > 5) = true := decide_eq_true (by omega)
    rw [if_pos h5] at hc
    subst hc
    rw [er_4]
    clear hn hi h5
    go_enter Try.func21, Try.ntmps21
    go_wp2_with fail
    go_ret
    exact ⟨rfl, rfl⟩
  · have t1 : decide ((n : Int) > 5) = false := decide_eq_false (by omega)
    rw [if_neg h5] at hc
    have HC := Lib.hid hc
    have HI := Lib.hid hi
    have HN := Lib.hid hn
    have CT := Lib.hid contains_any
    clear hn hi hc h5
    go_enter Try.func21, Try.ntmps21
    go_wp2_with fail
    go_loopw [11] (fun iv wr => ∃ k : Nat, k ≤ n ∧ iv = .int .i64 k ∧ wr = w ∧ Hid (∀ j : Nat, j < k → bad1 (row qs j) = 0)) (fun i _ => n - (intOf i).toNat)
    case atStart => exact ⟨0, Nat.zero_le _, rfl, rfl, fun j hj => absurd hj (Nat.not_lt_zero _)⟩
    case round =>
      obtain ⟨k, hk, rfl, rfl, H⟩ := hrel
      by_cases hlt : k < n
      · have u1 : decide ((k : Int) < (n : Int)) = true := decide_eq_true (by omega)
        have HK := Lib.hid (show k < qs.length by rw [← HN.out]; exact hlt)
        obtain ⟨b, off, rfl, _, hcc⟩ := HI.out.2.2 (Nat.lt_of_le_of_lt (Nat.zero_le _) HK.out)
        obtain ⟨q, c1, hck, hik⟩ := hcc k HK.out
        have hlen1 := hik.len_le
        clear hcc
        obtain ⟨m, hm⟩ : ∃ m, (row qs k).length = m := ⟨_, rfl⟩
        rw [show (qs[k]?.getD []).length = m from hm] at hck
        have hlen1' : m ≤ 9223372036854775807 := by rw [← hm]; exact hlen1
        clear hlen1
        have hik' : Ints wr q c1 (row qs k) := hik
        clear hik
        obtain ⟨d, hd⟩ : ∃ d, bad1 (row qs k) = d := ⟨_, rfl⟩
        have HD := Lib.hid hd
        unfold bad1 at hd
        rw [hm] at hd
        by_cases h8 : 8 < m
        · have u2 : decide ((m : Int) > 8) = true := decide_eq_true (by omega)
          rw [if_pos h8] at hd
          have HB := Lib.hid (show c = 4 by rw [← HC.out, bads_at qs k HK.out H.out (by rw [HD.out, ← hd]; decide), HD.out, hd])
          clear hd hm hik' h8
          go_wp2_with fail
          go_ret
          exact ⟨by rw [HB.out]; rfl, rfl⟩
        · have u2 : decide ((m : Int) > 8) = false := decide_eq_false (by omega)
          rw [if_neg h8] at hd
          obtain ⟨R, hR⟩ : ∃ R, R = fits (row qs k) := ⟨_, rfl⟩
          have C := Lib.hid (CT.out q c1 m (row qs k) wr hm.symm hik' (by rw [hm]; omega) R hR)
          rw [← hR] at hd
          cases R with
          | false =>
            rw [if_neg (by decide)] at hd
            have HB := Lib.hid (show c = 1 by rw [← HC.out, bads_at qs k HK.out H.out (by rw [HD.out, ← hd]; decide), HD.out, hd])
            clear hd hm hik' h8 hR
            go_wp2_with fail
            refine C.out.mono ?_; rintro e w1 ⟨rfl, rfl⟩
            go_wp2_with fail
            go_ret
            exact ⟨by rw [HB.out]; rfl, rfl⟩
          | true =>
            rw [if_pos rfl] at hd
            have H2 := Lib.hid (show ∀ j : Nat, j < k + 1 → bad1 (row qs j) = 0 from fun j hj => by
              by_cases e : j = k
              · rw [e, HD.out, hd]
              · exact H.out j (by omega))
            clear hd hm hik' h8 hR
            go_wp2_with fail
            refine C.out.mono ?_; rintro e w1 ⟨rfl, rfl⟩
            go_wp2_with fail
            go_roundw
            case rel => exact ⟨k + 1, by omega, by first | rfl | go_num, by first | trivial | rfl, H2⟩
            case measure => simp [intOf]; omega
      · obtain rfl : k = n := by omega
        have u1 : decide ((k : Int) < (k : Int)) = false := decide_eq_false (by omega)
        have HB := Lib.hid (show c = 0 by rw [← HC.out]; exact bads_none (fun j hj => H.out j (by rw [HN.out]; exact hj)))
        go_wp2_with fail
        go_ret
        exact ⟨by rw [HB.out]; rfl, rfl⟩
end Go.Proofs.Ytckfobkkjiiheaa.Drr
