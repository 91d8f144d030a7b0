/- Package curve: slices.BinarySearch. No statement is proved here. -/
import Derived.Test.YtfinfdcpepiadaaDoorCurve1
import Derived.Test.YtfinfdcpepiadaaDoorErr
import Derived.Test.YtfinfdcpepiadaaDoorSub
import Derived.BigQuiet
import Derived.RegionTactic
import Derived.Deep.LoopGhost
namespace Go.Proofs.YtfinfdcpepiadaaDoor.Curve
open Go.ChangeShapes Go.WideShapes Go.ChangeAt Go.RowKit Go.Proofs.YtfinfdcpepiadaaDoor.Kit Go.Proofs.YtfinfdcpepiadaaDoor.App Go.Proofs.YtfinfdcpepiadaaDoor.Err
set_option linter.unusedVariables false
set_option maxRecDepth 20000
set_option maxHeartbeats 1000000

theorem nan2_any (x : Int) (w : World) : Calls Tryd.prog 30 #[.int .i64 x] w fun e w' => e = .returned (.bool false) ∧ w' = w := by
  have t1 : (x != x) = false := by simp
  go_enter Tryd.func30, Tryd.ntmps30
  go_wp2_with fail
  go_ret
  exact ⟨rfl, rfl⟩
theorem search_any (p : Option Addr) (cap n : Nat) (l : List Int) (x : Int) (w : World) (hn : n = l.length) (hi : Ints w p cap l) (hg : Good l) (u : Nat) (hu : first l x = u) :
    Calls Tryd.prog 25 #[.slice p n cap, .int .i64 x] w fun e w' => (∃ B, e = .returned (.tuple #[.int .i64 u, .bool B])) ∧ w' = w := by
  have hp := hg.pos
  have hl := hg.len
  obtain ⟨b, off, rfl, _, hc⟩ := hi.2.2.2 (by omega)
  have HU := Lib.hid hu
  have HC := Lib.hid hc
  have HG := Lib.hid hg
  have HN := Lib.hid hn
  have LS := Lib.hid less_any
  have NN := Lib.hid nan2_any
  rw [← hn] at hp hl
  clear hg hc hi hn hu
  go_enter Tryd.func25, Tryd.ntmps25
  go_wp2_with fail
  go_loopg [7, 8] n (fun kx iv jv wr => ∃ i j : Nat, iv = .int .i64 i ∧ jv = .int .i64 j ∧ i ≤ j ∧ j ≤ n ∧ j - i ≤ kx ∧ wr = w ∧ Hid ((∀ q, q < i → am l q < x) ∧ (∀ q, j ≤ q → q < n → x ≤ am l q)))
  case atStart => exact ⟨0, n, rfl, rfl, Nat.zero_le _, Nat.le_refl _, by omega, rfl, fun q h => by omega, fun q h1 h2 => by omega⟩
  case round =>
    obtain ⟨i, j, rfl, rfl, hij, hjn, hkx, rfl, HI⟩ := hrel
    by_cases hlt : i < j
    · have c1 : decide ((i : Int) < (j : Int)) = true := decide_eq_true (by omega)
      obtain ⟨h, hh⟩ : ∃ h, (i + j) / 2 = h := ⟨_, rfl⟩
      have t6 : ((i : Int) + (j : Int)) / 2 = (h : Int) := by omega
      have h1 : i ≤ h := by omega
      have h2 : h < j := by omega
      have hk := HC.out h (by rw [← HN.out]; omega)
      obtain ⟨y, hy⟩ : ∃ y, am l h = y := ⟨_, rfl⟩
      rw [show l[h]?.getD 0 = y from hy] at hk
      have HY := Lib.hid hy
      obtain ⟨Q, hQ⟩ : ∃ Q, decide (y < x) = Q := ⟨_, rfl⟩
      have C := Lib.hid (fun W => LS.out y x W Q hQ)
      have HQ := Lib.hid hQ
      clear hy hQ hh
      cases Q with
      | true =>
        go_wp2_with fail
        refine (C.out _).mono ?_; rintro e w1 ⟨rfl, rfl⟩
        go_wp2_with fail
        go_roundg (gk - 1)
        case measure => omega
        case rel => exact ⟨h + 1, j, by first | rfl | go_num, rfl, by omega, hjn, by omega, rfl, fun q hq => by
          have e1 := HG.out.up q h (by omega) (by rw [← HN.out]; omega)
          have e2 := of_decide_eq_true HQ.out
          rw [HY.out] at e1
          omega, HI.out.2⟩
      | false =>
        go_wp2_with fail
        refine (C.out _).mono ?_; rintro e w1 ⟨rfl, rfl⟩
        go_wp2_with fail
        go_roundg (gk - 1)
        case measure => omega
        case rel => exact ⟨i, h, rfl, rfl, by omega, by omega, by omega, rfl, HI.out.1, fun q hq1 hq2 => by
          have e1 := HG.out.up h q (by omega) (by rw [← HN.out]; omega)
          have e2 := of_decide_eq_false HQ.out
          rw [HY.out] at e1
          omega⟩
    · obtain rfl : i = j := by omega
      have c1 : decide ((i : Int) < (i : Int)) = false := decide_eq_false (by omega)
      have HE := Lib.hid (show u = i by
        rw [← HU.out]
        exact first_is (by rw [← HN.out]; exact hjn) HI.out.1 (fun h => HI.out.2 i (Nat.le_refl _) (by rw [HN.out]; exact h)))
      by_cases hlt2 : i < n
      · have c2 : decide ((i : Int) < (n : Int)) = true := decide_eq_true (by omega)
        have hk := HC.out i (by rw [← HN.out]; omega)
        generalize l[i]?.getD 0 = y at hk
        by_cases hxy : y = x
        · have c3 : (y == x) = true := by rw [hxy]; simp
          clear hxy
          go_wp2_with fail
          go_ret2
          exact ⟨⟨_, by rw [HE.out]; rfl⟩, rfl⟩
        · have c3 : (y == x) = false := by rw [beq_eq_false_iff_ne]; exact hxy
          clear hxy
          go_wp2_with fail
          refine (NN.out _ _).mono ?_; rintro e w1 ⟨rfl, rfl⟩
          go_wp2_with fail
          go_ret2
          exact ⟨⟨_, by rw [HE.out]; rfl⟩, rfl⟩
      · have c2 : decide ((i : Int) < (n : Int)) = false := decide_eq_false (by omega)
        go_wp2_with fail
        go_ret2
        exact ⟨⟨_, by rw [HE.out]; rfl⟩, rfl⟩
end Go.Proofs.YtfinfdcpepiadaaDoor.Curve
