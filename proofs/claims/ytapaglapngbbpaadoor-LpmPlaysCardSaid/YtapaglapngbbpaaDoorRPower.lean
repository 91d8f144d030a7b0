/- The contract of the document's Power. No statement is proved here. -/
import Derived.Test.YtapaglapngbbpaaDoorPfx0
namespace Go.Proofs.YtapaglapngbbpaaDoor.Cidr
open Go.ChangeShapes Go.WideShapes Go.ChangeAt Go.RowKit Go.Proofs.YtapaglapngbbpaaDoor.Kit Go.Proofs.YtapaglapngbbpaaDoor.App Go.Proofs.YtapaglapngbbpaaDoor.Cells Go.Proofs.YtapaglapngbbpaaDoor.CidrMath
set_option linter.unusedVariables false
set_option maxRecDepth 20000

/-- A power of two. -/
theorem rpower (n : Nat) (z : Int) (hz : z = (n : Int)) (hn : n ≤ 17) (w : World) (R : Nat) (hR0 : R = 2 ^ n) : Calls Tryd.prog 28 #[.int .i64 z] w fun e w' => e = .returned (.int .i64 R) ∧ w = w' := by
  subst hz
  have hR := Lib.hid hR0
  clear hR0
  go_enter Tryd.func28, Tryd.ntmps28
  go_wp2
  go_loop [3, 4] (fun p i => ∃ k x : Nat, k ≤ n ∧ x ≤ 131072 ∧ i = .int .i64 k ∧ p = .int .i64 x ∧ Hid (x = 2 ^ k)) (fun _ i => n - (intOf i).toNat)
  case atStart => exact ⟨0, 1, Nat.zero_le _, by omega, rfl, rfl, rfl⟩
  case round =>
    obtain ⟨k, x, hk, hx, rfl, rfl, H⟩ := hrel
    by_cases hlt : k < n
    · have hx2 : x ≤ 65536 := by
        rw [H.out]
        exact Nat.le_trans (Nat.pow_le_pow_right (by omega) (show k ≤ 16 by omega)) (by omega)
      go_wp2
      go_round
      case rel => exact ⟨k + 1, 2 * x, by omega, by omega, by first | rfl | go_num, by first | rfl | go_num, Lib.hid (by rw [H.out, Nat.pow_succ, Nat.mul_comm])⟩
      case measure => simp [intOf]; omega
    · obtain rfl : k = n := by omega
      obtain rfl : x = R := by rw [H.out, hR.out]
      go_wp2
      go_ret
      exact ⟨rfl, rfl⟩
theorem pw (x : Pfx) : siz x = 2 ^ (16 - x.len).toNat := rfl

end Go.Proofs.YtapaglapngbbpaaDoor.Cidr
