/- The document's answer on distances: Cost. No statement is proved here. -/
import Derived.Test.YtedhippamfioeaaDoorVecRefMath
import Derived.Test.YtedhippamfioeaaDoorVecSmall
import Derived.Test.YtedhippamfioeaaDoorLink
import Derived.Test.YtedhippamfioeaaDoorSub
namespace Go.Proofs.YtedhippamfioeaaDoor.Vector
open Go.ChangeShapes Go.WideShapes Go.ChangeAt Go.RowKit Go.Proofs.YtedhippamfioeaaDoor.Kit Go.Proofs.YtedhippamfioeaaDoor.App Go.Proofs.YtedhippamfioeaaDoor.Cells Go.Proofs.YtedhippamfioeaaDoor.Err
set_option linter.unusedVariables false
set_option maxRecDepth 20000
set_option maxHeartbeats 2000000

theorem rcost_any (p : Option Addr) (cap m : Nat) (ls : List Lk) (a b : Int) (w : World) (hm : m = ls.length) (hi : CI layL w p cap ls) :
    Calls Tryd.prog 13 #[.slice p m cap, .int .i64 a, .int .i64 b] w fun e w' => e = .returned (.int .i64 (cst ls a b ls.length)) ∧ w' = w := by
  have hlen := hi.len_le
  rw [← hm] at hlen
  have HI := Lib.hid hi
  have HM := Lib.hid hm
  clear hi hm
  go_enter Tryd.func13, Tryd.ntmps13
  go_wp2_with fail
  go_loopw [7, 8] (fun cv kv wr => ∃ (k : Nat) (d : Int), k ≤ m ∧ kv = .int .i64 k ∧ cv = .int .i64 d ∧ Hid (d = cst ls a b k) ∧ wr = w) (fun _ k _ => m - (intOf k).toNat)
  case atStart => exact ⟨0, 1000, Nat.zero_le _, rfl, rfl, Lib.hid rfl, rfl⟩
  case round =>
    obtain ⟨k, d, hk, rfl, rfl, HD, rfl⟩ := hrel
    by_cases hlt : k < m
    · have v1 : decide ((k : Int) < (m : Int)) = true := decide_eq_true (by omega)
      have v1' : (k : Int) < (m : Int) := by omega
      have hkl : k < ls.length := by rw [← HM.out]; exact hlt
      obtain ⟨bl, off, rfl, hb, hat⟩ := links_at HI.out (by omega)
      obtain ⟨x0, x1, x2⟩ := hat wr (brefl _) k hkl
      have HY := Lib.hid (fun (h1 : fit (lk ls k) a b) (h2 : (lk ls k).c < cst ls a b k) => cst_yes h1 h2)
      have HN := Lib.hid (fun (h : ¬ (fit (lk ls k) a b ∧ (lk ls k).c < cst ls a b k)) => cst_no h)
      rw [← HD.out] at HY HN
      unfold fit at HY HN
      obtain ⟨x, hx⟩ : ∃ x, lk ls k = x := ⟨_, rfl⟩
      rw [hx] at x0 x1 x2 HY HN
      obtain ⟨xa, xb, xc⟩ := x
      simp only at x0 x1 x2 HY HN
      clear hat hx hb hkl
      by_cases hf : (xa = a ∧ xb = b) ∨ (xa = b ∧ xb = a)
      · by_cases hcd : xc < d
        · have u5 : decide (xc < d) = true := decide_eq_true hcd
          have HE := Lib.hid (HY.out hf hcd)
          have hcases : ((xa == a) = true ∧ (xb == b) = true) ∨ (((xa == a) = false ∨ ((xa == a) = true ∧ (xb == b) = false)) ∧ (xa == b) = true ∧ (xb == a) = true) := by
            simp only [beq_iff_eq, beq_eq_false_iff_ne]
            omega
          clear HY HN hf hcd
          rcases hcases with ⟨u1, u2⟩ | ⟨u1 | ⟨u1, u2⟩, u3, u4⟩
          all_goals
            go_wp2_with fail
            go_roundw
            case rel => exact ⟨k + 1, xc, by omega, by first | rfl | go_num, rfl, Lib.hid HE.out.symm, by first | trivial | rfl⟩
            case measure => simp [intOf]; omega
        · have u5 : decide (xc < d) = false := decide_eq_false hcd
          have HE := Lib.hid (HN.out (fun h => hcd h.2))
          have hcases : ((xa == a) = true ∧ (xb == b) = true) ∨ (((xa == a) = false ∨ ((xa == a) = true ∧ (xb == b) = false)) ∧ (xa == b) = true ∧ (xb == a) = true) := by
            simp only [beq_iff_eq, beq_eq_false_iff_ne]
            omega
          clear HY HN hf hcd
          rcases hcases with ⟨u1, u2⟩ | ⟨u1 | ⟨u1, u2⟩, u3, u4⟩
          all_goals
            go_wp2_with fail
            go_roundw
            case rel => exact ⟨k + 1, d, by omega, by first | rfl | go_num, rfl, Lib.hid HE.out.symm, by first | trivial | rfl⟩
            case measure => simp [intOf]; omega
      · have HE := Lib.hid (HN.out (fun h => hf h.1))
        have hcases : ((xa == a) = false ∨ ((xa == a) = true ∧ (xb == b) = false)) ∧ ((xa == b) = false ∨ ((xa == b) = true ∧ (xb == a) = false)) := by
          simp only [beq_iff_eq, beq_eq_false_iff_ne]
          omega
        clear HY HN hf
        rcases hcases with ⟨u1 | ⟨u1, u2⟩, u3 | ⟨u3, u4⟩⟩
        all_goals
          go_wp2_with fail
          go_roundw
          case rel => exact ⟨k + 1, d, by omega, by first | rfl | go_num, rfl, Lib.hid HE.out.symm, by first | trivial | rfl⟩
          case measure => simp [intOf]; omega
    · obtain rfl : k = m := by omega
      have v1 : decide ((k : Int) < (k : Int)) = false := decide_eq_false (by omega)
      have HE := Lib.hid (show d = cst ls a b ls.length by rw [HD.out, HM.out])
      go_wp2_with fail
      go_ret
      exact ⟨by rw [HE.out]; rfl, rfl⟩
end Go.Proofs.YtedhippamfioeaaDoor.Vector
