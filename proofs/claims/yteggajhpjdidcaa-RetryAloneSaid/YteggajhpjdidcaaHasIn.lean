/- Part one's Has: is a number in a list? General. No statement is proved here. -/
import Derived.Test.YteggajhpjdidcaaKit
import Derived.RegionTactic
import Derived.OwnWalk
namespace Go.Proofs.Yteggajhpjdidcaa.App
open Go.ChangeShapes Go.WideShapes Go.ChangeAt Go.RowKit Go.Proofs.Yteggajhpjdidcaa.Kit
set_option linter.unusedVariables false
set_option maxRecDepth 20000

theorem has_in (p : Option Addr) (cap n : Nat) (l : List Int) (x : Int) (w : World) (hn : n = l.length) (hi : Ints w p cap l) (R : Bool) (hR : R = decide (x ∈ l)) :
    Calls Try.prog 11 #[.slice p n cap, .int .i64 x] w fun e w' => e = .returned (.bool R) ∧ w' = w := by
  have hlen := hi.len_le
  rw [← hn] at hlen
  have HR := Lib.hid hR
  have HN := Lib.hid hn
  have HI := Lib.hid hi
  clear hR hn hi
  go_enter Try.func11, Try.ntmps11
  go_wp2_with fail
  go_loopw [5] (fun iv wr => ∃ j : Nat, iv = .int .i64 (j : Int) ∧ j ≤ n ∧ wr = w ∧ Hid (x ∉ l.take j)) (fun i _ => n - (intOf i).toNat)
  case atStart => exact ⟨0, rfl, Nat.zero_le _, rfl, Lib.hid (by simp)⟩
  case round =>
    obtain ⟨j, rfl, hj, rfl, HX⟩ := hrel
    by_cases hjn : j < n
    · have t1 : decide ((j : Int) < (n : Int)) = true := decide_eq_true (by omega)
      obtain ⟨bb, off, rfl, hb, hcs⟩ := HI.out.2.2.2 (by rw [← HN.out]; omega)
      have hc := hcs j (by rw [← HN.out]; omega)
      have ht := Lib.hid (show l.take (j + 1) = l.take j ++ [l[j]?.getD 0] by rw [List.take_add_one, List.getElem?_eq_getElem (by rw [← HN.out]; omega)]; rfl)
      have hmem := Lib.hid (show l[j]?.getD 0 ∈ l by rw [List.getElem?_eq_getElem (by rw [← HN.out]; omega)]; exact List.getElem_mem _)
      generalize l[j]?.getD 0 = y at hc ht hmem
      clear hcs hb
      by_cases hxy : y = x
      · have t2 : (y == x) = true := by rw [hxy]; simp
        go_wp2_with fail
        go_ret
        exact ⟨by rw [HR.out, ← hxy, decide_eq_true hmem.out]; rfl, rfl⟩
      · have t2 : (y == x) = false := by rw [beq_eq_false_iff_ne]; exact hxy
        go_wp2_with fail
        go_roundw
        case rel => exact ⟨j + 1, by first | rfl | go_num, by omega, by first | trivial | rfl, Lib.hid (by rw [ht.out, List.mem_append]; rintro (h | h); exact HX.out h; simp at h; exact hxy h.symm)⟩
        case measure => simp [intOf]; omega
    · obtain rfl : j = n := by omega
      have t1 : decide ((j : Int) < (j : Int)) = false := decide_eq_false (by omega)
      go_wp2_with fail
      go_ret
      exact ⟨by rw [HR.out, decide_eq_false (by have h := HX.out; rwa [List.take_of_length_le (by rw [HN.out]; exact Nat.le_refl _)] at h)]; rfl, rfl⟩

end Go.Proofs.Yteggajhpjdidcaa.App
