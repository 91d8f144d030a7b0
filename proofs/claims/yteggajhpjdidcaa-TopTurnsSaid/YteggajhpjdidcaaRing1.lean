/- Package ring: Check, slices.Max. No statement is proved here. -/
import Derived.Test.YteggajhpjdidcaaRingWalk
import Derived.Test.YteggajhpjdidcaaErr
import Derived.Test.YteggajhpjdidcaaOwnI
import Derived.Test.YteggajhpjdidcaaSub
import Derived.Test.YteggajhpjdidcaaClone
import Derived.Test.YteggajhpjdidcaaAimdMath
import Derived.Deep.LoopGhost
namespace Go.Proofs.Yteggajhpjdidcaa.Ring
open Go.ChangeShapes Go.WideShapes Go.ChangeAt Go.RowKit Go.Proofs.Yteggajhpjdidcaa.Kit Go.Proofs.Yteggajhpjdidcaa.App Go.Proofs.Yteggajhpjdidcaa.Err Go.Proofs.Yteggajhpjdidcaa.RingMath
set_option linter.unusedVariables false
set_option maxRecDepth 20000
set_option maxHeartbeats 1000000

theorem er_ne {c : Int} (h : c ≠ 0) : er c = .iface 48 (.int .i64 c) := by unfold er; rw [if_neg h]
theorem take_all {l : List Int} {k : Nat} (hk : k < l.length) (h : (l.take k).all fit = true) (hx : fit (l[k]?.getD 0) = true) : (l.take (k + 1)).all fit = true := by
  rw [List.take_add_one, List.getElem?_eq_getElem hk, List.all_append, h]
  rw [List.getElem?_eq_getElem hk] at hx
  simpa using hx
theorem not_all {l : List Int} {k : Nat} (hk : k < l.length) (hx : fit (l[k]?.getD 0) = false) : ¬ l.all fit = true := by
  intro h
  rw [List.getElem?_eq_getElem hk] at hx
  have := List.all_eq_true.1 h _ (List.getElem_mem hk)
  rw [show (some l[k]).getD 0 = l[k] from rfl, this] at hx
  cases hx
theorem check_any (p : Option Addr) (cap n : Nat) (l : List Int) (w : World) (hn : n = l.length) (hi : Ints w p cap l) (c : Int) (hc : code l = c) :
    Calls Try.prog 22 #[.slice p n cap] w fun e w' => e = .returned (er c) ∧ Below w.heap.size w w' := by
  have hlen := hi.len_le
  rw [← hn] at hlen
  unfold code at hc
  rw [← hn] at hc
  by_cases h1 : n = 0
  · rw [if_pos h1] at hc
    subst hc
    subst h1
    rw [er_5]
    clear hn hi
    go_enter Try.func22, Try.ntmps22
    go_wp2_with fail
    go_ret
    exact ⟨rfl, brefl w⟩
  have t1 : ((n : Int) == 0) = false := by rw [beq_eq_false_iff_ne]; omega
  rw [if_neg h1] at hc
  by_cases h2 : 8 < n
  · have t2 : decide ((n : Int) > 8) = true := decide_eq_true (by omega)
    rw [if_pos h2] at hc
    subst hc
    rw [er_4]
    clear hn hi
    go_enter Try.func22, Try.ntmps22
    go_wp2_with fail
    go_ret
    exact ⟨rfl, brefl w⟩
  have t2 : decide ((n : Int) > 8) = false := decide_eq_false (by omega)
  rw [if_neg h2] at hc
  obtain ⟨b, off, rfl, _, hcell⟩ := hi.2.2.2 (by omega)
  have HC := Lib.hid hcell
  have HCO := Lib.hid hc
  have HN := Lib.hid hn
  clear hcell hc hn hi
  go_enter Try.func22, Try.ntmps22
  go_wp2_with fail
  go_loopw [15] (fun iv wr => ∃ k : Nat, k ≤ n ∧ iv = .int .i64 k ∧ wr = w ∧ Hid ((l.take k).all fit = true)) (fun i _ => n - (intOf i).toNat)
  case atStart => exact ⟨0, Nat.zero_le _, rfl, rfl, Lib.hid rfl⟩
  case round =>
    obtain ⟨k, hk, rfl, rfl, HT⟩ := hrel
    by_cases hlt : k < n
    · have hkl : k < l.length := by rw [← HN.out]; exact hlt
      have hck := HC.out k hkl
      have HS := Lib.hid (fun h => take_all hkl HT.out h)
      have HX := Lib.hid (fun h => not_all hkl h)
      clear hkl
      generalize l[k]?.getD 0 = x at hck HS HX
      have u1 : decide ((k : Int) < (n : Int)) = true := decide_eq_true (by omega)
      by_cases h3 : x < 0
      · have t3 : decide (x < 0) = true := decide_eq_true h3
        have HE := Lib.hid (show er c = er 1 by
          rw [← HCO.out, if_neg (HX.out (by unfold fit; rw [decide_eq_false (by omega : ¬ 0 ≤ x)]; rfl))])
        clear h3
        go_wp2_with fail
        go_ret
        exact ⟨by rw [HE.out]; rfl, brefl _⟩
      · have t3 : decide (x < 0) = false := decide_eq_false h3
        by_cases h4 : 20 < x
        · have t4 : decide (x > 20) = true := decide_eq_true h4
          have HE := Lib.hid (show er c = er 1 by
            rw [← HCO.out, if_neg (HX.out (by unfold fit; rw [decide_eq_false (by omega : ¬ x ≤ 20), Bool.and_false]))])
          clear h3 h4
          go_wp2_with fail
          go_ret
          exact ⟨by rw [HE.out]; rfl, brefl _⟩
        · have t4 : decide (x > 20) = false := decide_eq_false h4
          have HS2 := Lib.hid (HS.out (fit_iff.2 ⟨by omega, by omega⟩))
          clear h3 h4
          go_wp2_with fail
          go_roundw
          case rel => exact ⟨k + 1, by omega, by first | rfl | go_num, by first | trivial | rfl, HS2⟩
          case measure => simp [intOf]; omega
    · obtain rfl : k = n := by omega
      have u1 : decide ((k : Int) < (k : Int)) = false := decide_eq_false (by omega)
      have HE := Lib.hid (show er c = .nilIface by
        have h := HT.out
        rw [List.take_of_length_le (by rw [← HN.out]; exact Nat.le_refl _)] at h
        rw [← HCO.out, if_pos h]; rfl)
      go_wp2_with fail
      go_ret
      exact ⟨by rw [HE.out]; rfl, brefl _⟩
set_option maxHeartbeats 1000000 in
theorem max_any (p : Option Addr) (cap n : Nat) (l : List Int) (w : World) (hn : n = l.length) (hi : Ints w p cap l) (h1 : 1 ≤ n) :
    Calls Try.prog 24 #[.slice p n cap] w fun e w' => e = .returned (.int .i64 (AimdMath.hi l)) ∧ w' = w := by
  have hlen := hi.len_le
  rw [← hn] at hlen
  have t0 : decide ((n : Int) < 1) = false := decide_eq_false (by omega)
  have HI := Lib.hid hi
  have HN := Lib.hid hn
  obtain ⟨b, off, rfl, _, hc⟩ := hi.2.2.2 (by omega)
  have hc0 := hc 0 (by omega)
  rw [Nat.add_zero] at hc0
  have HC := Lib.hid hc
  have HO := Lib.hid (AimdMath.one_take l (by omega))
  clear hi hn hc
  generalize l[0]?.getD 0 = x0 at hc0 HO
  go_enter Try.func24, Try.ntmps24
  go_wp2_with fail
  go_loopw [3, 4] (fun mv iv wr => ∃ k : Nat, ∃ m : Int, 1 ≤ k ∧ k ≤ n ∧ iv = .int .i64 k ∧ mv = .int .i64 m ∧ wr = w ∧ Hid (m = AimdMath.hi (l.take k))) (fun _ i _ => n - (intOf i).toNat)
  case atStart => exact ⟨1, x0, by omega, h1, rfl, rfl, rfl, Lib.hid (by rw [HO.out]; rfl)⟩
  case round =>
    obtain ⟨k, m, hk0, hk, rfl, rfl, rfl, HT⟩ := hrel
    by_cases hlt : k < n
    · have hkl : k < l.length := by rw [← HN.out]; exact hlt
      have hck := HC.out k hkl
      have HS := Lib.hid (AimdMath.hi_take l k (by omega) hkl)
      clear hkl
      generalize l[k]?.getD 0 = x at hck HS
      go_wp2_with fail
      go_roundw
      case rel => exact ⟨k + 1, max m x, by omega, by omega, by first | rfl | go_num, by first | rfl | (congr 1; omega) | (simp only [Int.max_def]; rfl), by first | trivial | rfl, Lib.hid (by rw [HS.out, HT.out])⟩
      case measure => simp [intOf]; omega
    · obtain rfl : k = n := by omega
      have hT : m = AimdMath.hi l := by rw [HT.out, List.take_of_length_le (by rw [← HN.out]; exact Nat.le_refl _)]
      clear HT
      subst hT
      go_wp2_with fail
      go_ret
      exact ⟨rfl, rfl⟩
end Go.Proofs.Yteggajhpjdidcaa.Ring
