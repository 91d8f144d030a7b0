/- renoFact, and what the laws read of a flow. No statement is proved here. -/
import Derived.Test.YtbemlbjnjpjlhaaReno1
import Derived.Test.YtbemlbjnjpjlhaaRttIn
namespace Go.Proofs.Ytbemlbjnjpjlhaa.Reno
open Go.ChangeShapes Go.WideShapes Go.ChangeAt Go.RowKit Go.Proofs.Ytbemlbjnjpjlhaa.Kit Go.Proofs.Ytbemlbjnjpjlhaa.App Go.Proofs.Ytbemlbjnjpjlhaa.Err
set_option linter.unusedVariables false
set_option maxRecDepth 20000
set_option maxHeartbeats 1000000

theorem window_at (g : Nat) (a b k : Int) (w : World) (hP : Flw w g (a, b, k)) : Calls Try.prog 12 #[.pointer (some ⟨g, 0, none⟩)] w fun e w' => e = .returned (.tuple #[.int .i64 a, .int .i64 b]) ∧ ∃ m, w' = w.drewN m :=
  window_any g (a, b, k) w hP
theorem Ok.nums {a b k : Int} (h : Ok (a, b, k)) : 1 ≤ a ∧ a ≤ 1000 ∧ 2 ≤ b ∧ b ≤ 1000 ∧ 0 ≤ k ∧ k < a := h
theorem fact_any (w : World) : Calls Try.prog 7 #[] w fun e w' => e = .returned (.bool true) ∧ Below w.heap.size w w' := by
  have N := Lib.hid (new_any w)
  go_enter Try.func7, Try.ntmps7
  go_wp2_with fail
  refine N.out.mono ?_; rintro e w1 ⟨rfl, hT1, hb1⟩
  have HT1 := Lib.hid hT1
  have HB1 := Lib.hid hb1
  obtain ⟨g, hg⟩ : ∃ g, w.heap.size = g := ⟨_, rfl⟩
  have HG := Lib.hid (Nat.le_of_eq hg)
  rw [hg] at HT1 ⊢
  clear hT1 hb1 N
  go_wp2_with fail
  go_loopw [2] (fun iv wr => ∃ j : Nat, iv = .int .i64 (j : Int) ∧ j ≤ 9 ∧ Hid (Flw wr g (1 + (j : Int), 1000, 0)) ∧ Hid (Below w.heap.size w wr)) (fun i _ => 9 - (intOf i).toNat)
  case atStart => exact ⟨0, rfl, Nat.zero_le _, HT1, HB1⟩
  case round =>
    obtain ⟨j, rfl, hj, HT, HB⟩ := hrel
    clear HT1 HB1
    by_cases hj9 : j < 9
    · have t1 : decide ((j : Int) < 9) = true := decide_eq_true (by omega)
      have C := Lib.hid (told_any g _ wr HT.out (by unfold Ok; simp only; omega))
      rw [told_fast (by omega) (by omega)] at C
      go_wp2_with fail
      refine C.out.mono ?_; rintro e w3 ⟨rfl, hT3, hg3⟩
      have e3 : (1 : Int) + (j : Int) + 1 = 1 + ((j + 1 : Nat) : Int) := by omega
      rw [e3] at hT3
      have HT3 := Lib.hid hT3
      have HB3 := Lib.hid (gbelow HB.out (Nat.le_refl _) hg3 HG.out)
      clear C hT3 hg3 HT HB
      go_wp2_with fail
      go_roundw
      case rel => exact ⟨j + 1, by first | rfl | go_num, by omega, HT3, HB3⟩
      case measure => simp [intOf]; omega
    · obtain rfl : j = 9 := by omega
      have HT : Hid (Flw wr g (10, 1000, 0)) := HT
      have C := Lib.hid (window_at g _ _ _ wr HT.out)
      go_wp2_with fail
      refine C.out.mono ?_; rintro e w3 ⟨rfl, m3, rfl⟩
      have HT3 := Lib.hid (HT.out.drewN m3)
      have HB3 := Lib.hid (bdrewN HB.out m3)
      clear HT HB C
      generalize wr.drewN m3 = w3 at HT3 HB3 ⊢
      have C := Lib.hid (lost_any g _ w3 HT3.out (by unfold Ok; simp only; omega))
      rw [show lost (10, 1000, 0) = (5, 5, 0) by decide] at C
      go_wp2_with fail
      refine C.out.mono ?_; rintro e w4 ⟨rfl, hT4, hg4⟩
      have HB4 := Lib.hid (gbelow HB3.out (Nat.le_refl _) hg4 HG.out)
      have C2 := Lib.hid (window_at g _ _ _ w4 hT4)
      clear C hT4 hg4 HB3 HT3
      go_wp2_with fail
      refine C2.out.mono ?_; rintro e w5 ⟨rfl, m5, rfl⟩
      go_wp2_with fail
      go_ret
      exact ⟨by first | rfl | simp, bdrewN HB4.out _⟩
end Go.Proofs.Ytbemlbjnjpjlhaa.Reno
