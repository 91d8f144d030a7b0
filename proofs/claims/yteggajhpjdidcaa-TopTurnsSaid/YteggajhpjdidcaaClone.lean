/- slices.Clone at numbers, of nothing too. General. No statement is proved here. -/
import Derived.Test.YteggajhpjdidcaaErr
import Derived.Test.YteggajhpjdidcaaSub
namespace Go.Proofs.Yteggajhpjdidcaa.App
open Go.ChangeShapes Go.WideShapes Go.ChangeAt Go.RowKit Go.Proofs.Yteggajhpjdidcaa.Kit Go.Proofs.Yteggajhpjdidcaa.Err
set_option linter.unusedVariables false
set_option maxRecDepth 20000

theorem clone_some (a : Addr) (n c : Nat) (l : List Int) (w : World) (hn : n = l.length) (hc : Ints w (some a) c l) (h40 : l.length ≤ 1000) :
    Calls Try.prog 23 #[.slice (some a) n c] w fun e w' => ∃ v, e = .returned v ∧ OwnI w' w.heap.size v l ∧ Below w.heap.size w w' := by
  subst hn
  have q1 : ∀ (w : World) (a : Option Addr) (n c n' c' : Nat), (binOp .eql 22 (.slice a n c) (.slice none n' c')).run Try.prog w = .ok (.bool a.isNone) w := fun w a n c n' c' => Lib.run_eql_slice_nil w _ _ a n c n' c' Try.underlying22
  have hown : OwnI (w.alloc (.cells #[] 3)) w.heap.size (.slice (some ⟨w.heap.size, 0, none⟩) 0 0) [] := ⟨World.ownsRow_made w #[] 0 (Nat.le_refl _) (Nat.zero_le _) (by simp), by simp⟩
  go_enter Try.func23, Try.ntmps23
  go_wp2_with (at_builtin
               refine wp_app rfl (.tmp 5) (.tmp 6) rfl w.heap.size _ [] (some a) c l.length l rfl hown rfl rfl (hc.below (balloc (brefl w) _)) (by simp; omega) (by simp) ?_
               intro v1 wa hown1 hg1 hat1
               have hb1 : Below w.heap.size w wa := below_app (balloc (brefl w) _) hown hg1 (by simp)
               clear hat1 hg1)
  go_ret
  exact ⟨_, rfl, by simpa using hown1, hb1⟩
theorem clone_none (n c : Nat) (w : World) :
    Calls Try.prog 23 #[.slice none n c] w fun e w' => e = .returned (.slice none 0 0) ∧ w' = w := by
  have q1 : ∀ (w : World) (a : Option Addr) (n c n' c' : Nat), (binOp .eql 22 (.slice a n c) (.slice none n' c')).run Try.prog w = .ok (.bool a.isNone) w := fun w a n c n' c' => Lib.run_eql_slice_nil w _ _ a n c n' c' Try.underlying22
  go_enter Try.func23, Try.ntmps23
  go_wp2_with fail
  go_ret
  exact ⟨rfl, rfl⟩
theorem clone_all (p : Option Addr) (n c : Nat) (l : List Int) (w : World) (hn : n = l.length) (hc : Ints w p c l) (h40 : l.length ≤ 1000) :
    Calls Try.prog 23 #[.slice p n c] w fun e w' => ∃ v, e = .returned v ∧ OwnI w' w.heap.size v l ∧ Below w.heap.size w w' := by
  cases p with
  | some a => exact clone_some a n c l w hn hc h40
  | none =>
    have : l = [] := by
      by_cases h0 : 0 < l.length
      · obtain ⟨b, off, e, _⟩ := hc.2.2.2 h0; cases e
      · exact List.eq_nil_of_length_eq_zero (by omega)
    subst this
    refine (clone_none n c w).mono ?_
    rintro e w' ⟨rfl, rfl⟩
    exact ⟨_, rfl, OwnI.nil _ _, brefl _⟩
end Go.Proofs.Yteggajhpjdidcaa.App
