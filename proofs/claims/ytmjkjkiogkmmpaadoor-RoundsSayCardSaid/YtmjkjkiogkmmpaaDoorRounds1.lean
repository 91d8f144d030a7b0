/- Package rounds: finisher and the function that it returns. No statement is proved here. -/
import Derived.Test.YtmjkjkiogkmmpaaDoorPacket
import Derived.Test.YtmjkjkiogkmmpaaDoorBlk
import Derived.Test.YtmjkjkiogkmmpaaDoorErr
import Derived.BigRegion
namespace Go.Proofs.YtmjkjkiogkmmpaaDoor.Rounds
open Go.ChangeShapes Go.WideShapes Go.ChangeAt Go.RowKit Go.Proofs.YtmjkjkiogkmmpaaDoor.Kit Go.Proofs.YtmjkjkiogkmmpaaDoor.App Go.Proofs.YtmjkjkiogkmmpaaDoor.Cells Go.Proofs.YtmjkjkiogkmmpaaDoor.Err Go.Proofs.YtmjkjkiogkmmpaaDoor.Drr
set_option linter.unusedVariables false
set_option maxRecDepth 20000
set_option maxHeartbeats 1000000

/-- The totals of five queues in a block. -/
def tots (f : Nat → Int) : List Value := [.int .i64 (f 0), .int .i64 (f 1), .int .i64 (f 2), .int .i64 (f 3), .int .i64 (f 4)]
theorem tots_get (f : Nat → Int) (k : Nat) (hk : k < 5) : (tots f)[k]? = some (.int .i64 (f k)) := by
  rcases k with _|_|_|_|_|k
  · rfl
  · rfl
  · rfl
  · rfl
  · rfl
  · omega
theorem tots_set (f : Nat → Int) (k : Nat) (hk : k < 5) (x : Int) : (tots f).set k (.int .i64 x) = tots (fun j => if j = k then x else f j) := by
  rcases k with _|_|_|_|_|k
  · rfl
  · rfl
  · rfl
  · rfl
  · rfl
  · omega
/-- The sum of the least of r and each total. -/
def sumF (f : Nat → Int) (r : Int) : Nat → Int
  | 0 => 0
  | n + 1 => sumF f r n + min r (f n)
theorem sumF_bit (qs : List (List Int)) (f : Nat → Int) (hf : ∀ k, f k = tot (row qs k)) (r : Int) : ∀ n : Nat, sumF f r n = bit qs r n
  | 0 => rfl
  | n + 1 => by
    show sumF f r n + min r (f n) = bit qs r n + min r (tot (row qs n))
    rw [sumF_bit qs f hf r n, hf]
theorem index5 (x0 x1 x2 x3 x4 : Int) (W : World) : 
    (Instr.index 55 (.agg #[.int .i64 x0, .int .i64 x1, .int .i64 x2, .int .i64 x3, .int .i64 x4]) (.int .i64 0)).run Tryd.prog W = .ok (.int .i64 x0) W ∧
    (Instr.index 55 (.agg #[.int .i64 x0, .int .i64 x1, .int .i64 x2, .int .i64 x3, .int .i64 x4]) (.int .i64 1)).run Tryd.prog W = .ok (.int .i64 x1) W ∧
    (Instr.index 55 (.agg #[.int .i64 x0, .int .i64 x1, .int .i64 x2, .int .i64 x3, .int .i64 x4]) (.int .i64 2)).run Tryd.prog W = .ok (.int .i64 x2) W ∧
    (Instr.index 55 (.agg #[.int .i64 x0, .int .i64 x1, .int .i64 x2, .int .i64 x3, .int .i64 x4]) (.int .i64 3)).run Tryd.prog W = .ok (.int .i64 x3) W ∧
    (Instr.index 55 (.agg #[.int .i64 x0, .int .i64 x1, .int .i64 x2, .int .i64 x3, .int .i64 x4]) (.int .i64 4)).run Tryd.prog W = .ok (.int .i64 x4) W := by
  refine ⟨?_, ?_, ?_, ?_, ?_⟩ <;> (show _ = _; kernel_rfl)
theorem index_tots (f : Nat → Int) (k : Nat) (hk : k < 5) (W : World) : (Instr.index 55 (.agg #[.int .i64 (f 0), .int .i64 (f 1), .int .i64 (f 2), .int .i64 (f 3), .int .i64 (f 4)]) (.int .i64 (k : Int))).run Tryd.prog W = .ok (.int .i64 (f k)) W := by
  obtain ⟨h0, h1, h2, h3, h4⟩ := index5 (f 0) (f 1) (f 2) (f 3) (f 4) W
  rcases k with _|_|_|_|_|k
  · exact h0
  · exact h1
  · exact h2
  · exact h3
  · exact h4
  · omega
theorem finish_any (g : Nat) (f : Nat → Int) (r : Int) (w : World) (hf : ∀ k, 0 ≤ f k ∧ f k ≤ 1000) (hr : 0 ≤ r ∧ r ≤ 1000) (hB : Blk 55 w g (tots f)) (R : Int) (hR : sumF f r 5 = R) :
    Calls Tryd.prog 23 #[.int .i64 r, .pointer (some ⟨g, 0, none⟩)] w fun e w' => e = .returned (.int .i64 R) ∧ w' = w := by
  have c0 := hB.cell 0 _ rfl
  have c1 := hB.cell 1 _ rfl
  have c2 := hB.cell 2 _ rfl
  have c3 := hB.cell 3 _ rfl
  have c4 := hB.cell 4 _ rfl
  have HX := Lib.hid (index_tots f)
  have HF := Lib.hid hf
  have HR := Lib.hid hR
  clear hf hB hR
  go_enter Tryd.func23, Tryd.ntmps23
  go_wp2_with fail
  clear c0 c1 c2 c3 c4
  generalize (#[.int .i64 (f 0), .int .i64 (f 1), .int .i64 (f 2), .int .i64 (f 3), .int .i64 (f 4)] : Array Value) = T at HX ⊢
  go_loopw [4, 8] (fun tv iv wr => ∃ (k : Nat) (t : Int), k ≤ 5 ∧ iv = .int .i64 k ∧ tv = .int .i64 t ∧ 0 ≤ t ∧ t ≤ 1000 * k ∧ wr = w ∧ Hid (t = sumF f r k)) (fun _ i _ => 5 - (intOf i).toNat)
  case atStart => exact ⟨0, 0, by omega, rfl, rfl, by omega, by omega, rfl, Lib.hid rfl⟩
  case round =>
    obtain ⟨k, t, hk, rfl, rfl, t0, t1, rfl, HT⟩ := hrel
    by_cases hlt : k < 5
    · have u1 : decide ((k : Int) < 5) = true := decide_eq_true (by omega)
      have hix := HX.out k hlt
      have hfk := HF.out k
      obtain ⟨s, hs⟩ : ∃ s, sumF f r (k + 1) = s := ⟨_, rfl⟩
      have HS := Lib.hid hs
      have hs2 : t + min r (f k) = s := by rw [HT.out, ← hs]; rfl
      clear hs
      generalize f k = x at hix hfk hs2
      obtain ⟨x0, x1⟩ := hfk
      have s0 : 0 ≤ s := by omega
      have s1 : s ≤ 1000 * (k + 1 : Nat) := by omega
      by_cases hrx : r < x
      · have u2 : decide (r < x) = true := decide_eq_true hrx
        have u3 : decide (x < r) = false := decide_eq_false (by omega)
        have u4 : t + r = s := by omega
        clear hs2
        go_wp2_with fail
        go_roundw
        case rel => exact ⟨k + 1, s, by omega, by first | rfl | go_num, by first | rfl | go_num | (congr 1), s0, s1, by first | trivial | rfl, Lib.hid HS.out.symm⟩
        case measure => simp [intOf]; omega
      · have u2 : decide (r < x) = false := decide_eq_false hrx
        have u4 : t + x = s := by omega
        clear hs2
        go_wp2_with fail
        all_goals
          go_roundw
          case rel => exact ⟨k + 1, s, by omega, by first | rfl | go_num, by first | rfl | go_num | (congr 1), s0, s1, by first | trivial | rfl, Lib.hid HS.out.symm⟩
          case measure => simp [intOf]; omega
    · obtain rfl : k = 5 := by omega
      have HE := Lib.hid (show t = R by rw [HT.out, HR.out])
      go_wp2_with fail
      go_ret
      exact ⟨by rw [HE.out]; rfl, rfl⟩
end Go.Proofs.YtmjkjkiogkmmpaaDoor.Rounds
