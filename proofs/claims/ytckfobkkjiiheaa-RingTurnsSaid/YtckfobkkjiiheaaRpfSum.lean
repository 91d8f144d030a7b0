/- The statements' Sum of eight small numbers. No statement is proved here. -/
import Derived.Test.YtckfobkkjiiheaaAimdMath
import Derived.Test.YtckfobkkjiiheaaErr
namespace Go.Proofs.Ytckfobkkjiiheaa.Aimd
open Go.ChangeShapes Go.WideShapes Go.ChangeAt Go.RowKit Go.Proofs.Ytckfobkkjiiheaa.Kit Go.Proofs.Ytckfobkkjiiheaa.App Go.Proofs.Ytckfobkkjiiheaa.Err Go.Proofs.Ytckfobkkjiiheaa.AimdMath
set_option linter.unusedVariables false
set_option maxRecDepth 20000

set_option maxHeartbeats 1000000 in
theorem sums_any (p : Option Addr) (cap n : Nat) (l : List Int) (w : World) (hn : n = l.length) (hi : Ints w p cap l) (hl : l.length ≤ 8) (hb : ∀ x ∈ l, 0 ≤ x ∧ x ≤ 10000) :
    Calls Try.prog 13 #[.slice p n cap] w fun e w' => e = .returned (.int .i64 l.sum) ∧ w' = w := by
  have hlen := hi.len_le
  rw [← hn] at hlen hl
  have HI := Lib.hid hi
  have HN := Lib.hid hn
  have HB := Lib.hid hb
  clear hi hn hb
  go_enter Try.func13, Try.ntmps13
  go_wp2_with fail
  go_loopw [3, 4] (fun tv iv wr => ∃ k : Nat, ∃ t : Int, k ≤ n ∧ iv = .int .i64 k ∧ tv = .int .i64 t ∧ wr = w ∧ 0 ≤ t ∧ t ≤ 10000 * k ∧ Hid (t = (l.take k).sum)) (fun _ i _ => n - (intOf i).toNat)
  case atStart => exact ⟨0, 0, Nat.zero_le _, rfl, rfl, rfl, by omega, by omega, Lib.hid (by simp)⟩
  case round =>
    obtain ⟨k, t, hk, rfl, rfl, rfl, ht0, ht1, HT⟩ := hrel
    by_cases hlt : k < n
    · have hkl : k < l.length := by rw [← HN.out]; exact hlt
      obtain ⟨b, off, rfl, _, hc⟩ := HI.out.2.2.2 (by omega)
      have hck := hc k hkl
      have hx2 := HB.out (l[k]?.getD 0) (by rw [List.getElem?_eq_getElem hkl]; exact List.getElem_mem hkl)
      have HS := Lib.hid (take_sum l k hkl)
      clear hc hkl
      obtain ⟨x, hx⟩ : ∃ x, l[k]?.getD 0 = x := ⟨_, rfl⟩
      rw [hx] at hck hx2 HS
      clear hx
      have hw := wrap_in (n := t + x) (by omega)
      go_wp2_with fail
      go_roundw
      case rel => exact ⟨k + 1, t + x, by omega, by first | rfl | go_num, by first | rfl | rw [hw] | go_num, by first | trivial | rfl, by omega, by omega, Lib.hid (by rw [HS.out, HT.out])⟩
      case measure => simp [intOf]; omega
    · obtain rfl : k = n := by omega
      have hT : t = l.sum := by rw [HT.out, List.take_of_length_le (by rw [← HN.out]; exact Nat.le_refl _)]
      clear HT
      subst hT
      go_wp2_with fail
      go_ret
      exact ⟨rfl, rfl⟩
end Go.Proofs.Ytckfobkkjiiheaa.Aimd
