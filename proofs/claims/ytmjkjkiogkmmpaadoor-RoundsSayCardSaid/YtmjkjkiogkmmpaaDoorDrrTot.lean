/- Part three's All: the sum of a queue. No statement is proved here. -/
import Derived.Test.YtmjkjkiogkmmpaaDoorDrrIn
namespace Go.Proofs.YtmjkjkiogkmmpaaDoor.Drr
open Go.ChangeShapes Go.WideShapes Go.ChangeAt Go.RowKit Go.Proofs.YtmjkjkiogkmmpaaDoor.Kit Go.Proofs.YtmjkjkiogkmmpaaDoor.App Go.Proofs.YtmjkjkiogkmmpaaDoor.Err
set_option linter.unusedVariables false
set_option maxRecDepth 20000
set_option maxHeartbeats 1000000

theorem all_tot (p : Option Addr) (cap n : Nat) (l : List Int) (w : World) (hn : n = l.length) (hi : Ints w p cap l) (hg : fine l) (c : Int) (hc : tot l = c) :
    Calls Tryd.prog 6 #[.slice p n cap] w fun e w' => e = .returned (.int .i64 c) ∧ w' = w := by
  have HI := Lib.hid hi
  have HG := Lib.hid hg
  have HN := Lib.hid hn
  have HC := Lib.hid hc
  have hn8 : n ≤ 8 := by rw [hn]; exact hg.1
  clear hn hi hc hg
  go_enter Tryd.func6, Tryd.ntmps6
  go_wp2_with fail
  go_loopw [3, 4] (fun mv iv wr => ∃ (k : Nat) (m : Int), k ≤ n ∧ 0 ≤ m ∧ m ≤ 20 * k ∧ iv = .int .i64 k ∧ mv = .int .i64 m ∧ wr = w ∧ Hid (m = tot (l.take k))) (fun _ i _ => n - (intOf i).toNat)
  case atStart => exact ⟨0, 0, Nat.zero_le _, by omega, by omega, rfl, rfl, rfl, Lib.hid (by simp [tot])⟩
  case round =>
    obtain ⟨k, m, hk, hm0, hm, rfl, rfl, rfl, H⟩ := hrel
    by_cases hlt : k < n
    · have u1 : decide ((k : Int) < (n : Int)) = true := decide_eq_true (by omega)
      have hkl : k < l.length := by rw [← HN.out]; exact hlt
      obtain ⟨b, off, rfl⟩ := some_ints HI.out (by omega)
      have hck := cell_ints HI.out k hkl
      have HT := Lib.hid (tot_take_step hkl)
      have h20 := HG.out.2 (l[k]?.getD 0) (by rw [List.getElem?_eq_getElem hkl]; exact List.getElem_mem hkl)
      obtain ⟨y, hy⟩ : ∃ y, l[k]?.getD 0 = y := ⟨_, rfl⟩
      rw [hy] at hck HT h20
      obtain ⟨y1, y2⟩ := h20
      have H2 := Lib.hid (show m + y = tot (l.take (k + 1)) by rw [HT.out, H.out])
      clear hkl hy
      go_wp2_with fail
      go_roundw
      case rel => exact ⟨k + 1, m + y, by omega, by omega, by omega, by first | rfl | go_num, by first | rfl | go_num, by first | trivial | rfl, H2⟩
      case measure => simp [intOf]; omega
    · obtain rfl : k = n := by omega
      have u1 : decide ((k : Int) < (k : Int)) = false := decide_eq_false (by omega)
      have HE := Lib.hid (show m = c by rw [H.out, HN.out, List.take_length, HC.out])
      go_wp2_with fail
      go_ret
      exact ⟨by rw [HE.out]; rfl, rfl⟩

end Go.Proofs.YtmjkjkiogkmmpaaDoor.Drr
