/- The statements' Turned: a list turned round. General. No statement is proved here. -/
import Derived.Test.YtggnpecmldnmnaaSub
import Derived.Test.YtggnpecmldnmnaaErr
namespace Go.Proofs.Ytggnpecmldnmnaa.App
open Go.ChangeShapes Go.WideShapes Go.ChangeAt Go.RowKit Go.Proofs.Ytggnpecmldnmnaa.Kit Go.Proofs.Ytggnpecmldnmnaa.Err
set_option linter.unusedVariables false
set_option maxRecDepth 20000
set_option maxHeartbeats 1000000

theorem rev_step {l : List Int} {j i : Nat} (h : j + i + 1 = l.length) : l.reverse.take (j + 1) = l.reverse.take j ++ [l[i]?.getD 0] := by
  rw [List.take_add_one, List.getElem?_reverse (by omega), show l.length - 1 - j = i by omega, List.getElem?_eq_getElem (by omega)]
  rfl
theorem turned_any (p : Option Addr) (cap n : Nat) (l : List Int) (w : World) (hn : n = l.length) (hi : Ints w p cap l) (hl : n ≤ 700) :
    Calls Try.prog 12 #[.slice p n cap] w fun e w' => ∃ v, e = .returned v ∧ OwnI w' w.heap.size v l.reverse ∧ Below w.heap.size w w' := by
  have HI := Lib.hid hi
  have HN := Lib.hid hn
  clear hi hn
  go_enter Try.func12, Try.ntmps12
  go_wp2_with fail
  go_loopw [3, 4] (fun ov iv wr => ∃ (j : Nat) (t : Int) (v : Value), v = ov ∧ iv = .int .i64 t ∧ t + (j : Int) + 1 = (n : Int) ∧ -1 ≤ t ∧ Hid (OwnI wr w.heap.size v (l.reverse.take j)) ∧ Hid (Below w.heap.size w wr)) (fun _ i _ => (intOf i + 1).toNat)
  case atStart => exact ⟨0, (n : Int) - 1, _, rfl, by first | rfl | go_num, by omega, by omega, Lib.hid (OwnI.nil _ _), Lib.hid (brefl w)⟩
  case round =>
    obtain ⟨j, t, v, rfl, rfl, hjt, ht, HO, HB⟩ := hrel
    by_cases h0 : 0 ≤ t
    · have u1 : decide (t ≥ 0) = true := decide_eq_true h0
      obtain ⟨i, rfl⟩ : ∃ i : Nat, t = (i : Int) := ⟨t.toNat, by omega⟩
      have hil : i < l.length := by rw [← HN.out]; omega
      have hiw := HI.out.below HB.out
      obtain ⟨b, off, rfl, _, hcc⟩ := hiw.2.2.2 (by omega)
      have hck := hcc i hil
      have hx := HI.out.2.2.1 i
      have HE := Lib.hid (rev_step (l := l) (j := j) (i := i) (by rw [← HN.out]; omega))
      obtain ⟨x, hx0⟩ : ∃ x, l[i]?.getD 0 = x := ⟨_, rfl⟩
      rw [hx0] at hck hx HE
      have hin' : (i : Int) < (n : Int) := by omega
      have hB0 := HB.out.size
      have hwr := wrap_in (n := (i : Int) - 1) (by omega)
      have HJ := Lib.hid (show j ≤ 700 by omega)
      have HJT := Lib.hid hjt
      clear hcc hiw hil hx0 hjt
      go_wp2_with (first
        | (at_builtin
           refine wp_app rfl (.tmp 12) (.tmp 17) rfl w.heap.size v (l.reverse.take j) (some ⟨wr.heap.size, 0, none⟩) 1 1 [x] rfl (HO.out.alloc _) rfl rfl (Ints.one _ x hx) (by have := HJ.out; rw [List.length_take]; simp; omega) (Nat.le_trans hB0 (by simp)) ?_
           intro v8 w8 ho8 hg8 hat8
           have HB8 := Lib.hid (below_one HB.out hB0 _ HO.out hg8)
           have HO8 := Lib.hid ho8
           clear ho8 hg8 hat8))
      go_roundw
      case rel => exact ⟨j + 1, (i : Int) - 1, v8, rfl, by first | rfl | go_num, by have := HJT.out; omega, by omega, by rw [HE.out]; exact HO8, HB8⟩
      case measure => first | (simp [intOf]; done) | (simp [intOf]; omega)
    · have u1 : decide (t ≥ 0) = false := decide_eq_false (by omega)
      have hj : j = n := by omega
      have HR := Lib.hid (show l.reverse.take j = l.reverse from List.take_of_length_le (by rw [List.length_reverse, ← HN.out]; omega))
      rw [HR.out] at HO
      clear hj hjt
      go_wp2_with fail
      go_ret
      exact ⟨_, rfl, HO.out, HB.out⟩
end Go.Proofs.Ytggnpecmldnmnaa.App
