/- Part three's count. No statement is proved here. -/
import Derived.Test.YtmjkjkiogkmmpaaDrrIn
namespace Go.Proofs.Ytmjkjkiogkmmpaa.Drr
open Go.ChangeShapes Go.WideShapes Go.ChangeAt Go.RowKit Go.Proofs.Ytmjkjkiogkmmpaa.Kit Go.Proofs.Ytmjkjkiogkmmpaa.App Go.Proofs.Ytmjkjkiogkmmpaa.Err
set_option linter.unusedVariables false
set_option maxRecDepth 20000
set_option maxHeartbeats 1000000

theorem count_any (p : Option Addr) (cap n : Nat) (l : List Int) (x : Int) (w : World) (hn : n = l.length) (hi : Ints w p cap l) (c : Nat) (hc : l.count x = c) :
    Calls Try.prog 11 #[.slice p n cap, .int .i64 x] w fun e w' => e = .returned (.int .i64 (c : Int)) ∧ w' = w := by
  have hlen := hi.len_le
  have HI := Lib.hid hi
  have HN := Lib.hid hn
  have HC := Lib.hid hc
  rw [← hn] at hlen
  clear hn hi hc
  go_enter Try.func11, Try.ntmps11
  go_wp2_with fail
  go_loopw [5, 6] (fun mv iv wr => ∃ k m : Nat, k ≤ n ∧ m ≤ k ∧ iv = .int .i64 k ∧ mv = .int .i64 m ∧ wr = w ∧ Hid (m = (l.take k).count x)) (fun _ i _ => n - (intOf i).toNat)
  case atStart => exact ⟨0, 0, Nat.zero_le _, Nat.le_refl _, rfl, rfl, rfl, Lib.hid (by simp)⟩
  case round =>
    obtain ⟨k, m, hk, hm, rfl, rfl, rfl, H⟩ := hrel
    by_cases hlt : k < n
    · have u1 : decide ((k : Int) < (n : Int)) = true := decide_eq_true (by omega)
      have hkl : k < l.length := by rw [← HN.out]; exact hlt
      obtain ⟨b, off, rfl⟩ := some_ints HI.out (by omega)
      have hck := cell_ints HI.out k hkl
      have HT := Lib.hid (take_step hkl)
      obtain ⟨y, hy⟩ : ∃ y, l[k]?.getD 0 = y := ⟨_, rfl⟩
      rw [hy] at hck HT
      clear hkl hy
      by_cases e : y = x
      · have u2 : (y == x) = true := by rw [e]; simp
        have H2 := Lib.hid (show m + 1 = (l.take (k + 1)).count x by rw [HT.out, List.count_append, ← H.out, e]; simp)
        clear e
        go_wp2_with fail
        go_roundw
        case rel => exact ⟨k + 1, m + 1, by omega, by omega, by first | rfl | go_num, by first | rfl | go_num, by first | trivial | rfl, H2⟩
        case measure => simp [intOf]; omega
      · have u2 : (y == x) = false := by rw [beq_eq_false_iff_ne]; exact e
        have H2 := Lib.hid (show m = (l.take (k + 1)).count x by rw [HT.out, List.count_append, ← H.out, List.count_cons, u2]; simp)
        clear e
        go_wp2_with fail
        go_roundw
        case rel => exact ⟨k + 1, m, by omega, by omega, by first | rfl | go_num, rfl, by first | trivial | rfl, H2⟩
        case measure => simp [intOf]; omega
    · obtain rfl : k = n := by omega
      have u1 : decide ((k : Int) < (k : Int)) = false := decide_eq_false (by omega)
      have HE := Lib.hid (show m = c by rw [H.out, HN.out, List.take_length, HC.out])
      go_wp2_with fail
      go_ret
      exact ⟨by rw [HE.out]; rfl, rfl⟩

end Go.Proofs.Ytmjkjkiogkmmpaa.Drr
