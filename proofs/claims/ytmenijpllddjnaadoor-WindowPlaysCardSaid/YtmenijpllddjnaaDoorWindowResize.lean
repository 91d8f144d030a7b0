/- Package window: Resize. No statement is proved here. -/
import Derived.Test.YtmenijpllddjnaaDoorWindow1
namespace Go.Proofs.YtmenijpllddjnaaDoor.Window
open Go.ChangeShapes Go.WideShapes Go.ChangeAt Go.RowKit Go.Proofs.YtmenijpllddjnaaDoor.Kit Go.Proofs.YtmenijpllddjnaaDoor.App Go.Proofs.YtmenijpllddjnaaDoor.Err
set_option linter.unusedVariables false
set_option maxRecDepth 20000
set_option maxHeartbeats 1000000

theorem resize_bad (g : Nat) (n : Int) (w : World) (h : ¬ (0 ≤ n ∧ n ≤ 100)) : Calls Tryd.prog 13 #[.pointer (some ⟨g, 0, none⟩), .int .i64 n] w fun e w' => e = .returned (er 1) ∧ w' = w := by
  have F := Lib.hid (fun W => fits_any n W false (in_false h))
  clear h
  go_enter Tryd.func13, Tryd.ntmps13
  go_wp2_with fail
  refine (F.out _).mono ?_; rintro e w1 ⟨rfl, rfl⟩
  go_wp2_with fail
  go_ret
  exact ⟨rfl, rfl⟩
theorem resize_state (g : Nat) (r b c n : Int) (w : World) (hP : Pip w g r b c) (hO : Ok r b c) (h : 0 ≤ n ∧ n ≤ 100) (hn : n < b + c) : Calls Tryd.prog 13 #[.pointer (some ⟨g, 0, none⟩), .int .i64 n] w fun e w' => e = .returned (er 7) ∧ ∃ m, w' = w.drewN m := by
  have F := Lib.hid (fun W => fits_any n W true (in_true h))
  obtain ⟨c0, c1, c2, f0, f1, f2⟩ := hP.cells
  obtain ⟨o1, o2, o3, o4⟩ := hO
  have t1 : decide (n < b + c) = true := decide_eq_true hn
  clear h hP
  go_enter Tryd.func13, Tryd.ntmps13
  go_wp2_with fail
  refine (F.out _).mono ?_; rintro e w1 ⟨rfl, rfl⟩
  go_wp2_with fail
  go_quiet (fail)
  go_wp2_with fail
  go_ret
  exact ⟨rfl, _, rfl⟩
theorem resize_good (g : Nat) (r b c n : Int) (w : World) (hP : Pip w g r b c) (hO : Ok r b c) (h : 0 ≤ n ∧ n ≤ 100) (hn : ¬ n < b + c) : Calls Tryd.prog 13 #[.pointer (some ⟨g, 0, none⟩), .int .i64 n] w fun e w' => e = .returned (er 0) ∧ Pip w' g n b c ∧ w.grownBy w' (some g) := by
  have F := Lib.hid (fun W => fits_any n W true (in_true h))
  obtain ⟨c0, c1, c2, f0, f1, f2⟩ := hP.cells
  have HP := Lib.hid hP
  obtain ⟨o1, o2, o3, o4⟩ := hO
  have t1 : decide (n < b + c) = false := decide_eq_false hn
  clear h hP
  go_enter Tryd.func13, Tryd.ntmps13
  go_wp2_with fail
  refine (F.out _).mono ?_; rintro e w1 ⟨rfl, rfl⟩
  go_wp2_with fail
  go_quiet (fail)
  go_wp2_with fail
  go_ret
  refine ⟨rfl, Pip.set0 (HP.out.drewN _) _, ?_⟩
  exact grown_set (grown_drewN (grefl w1 (some g)) _) 0 _
end Go.Proofs.YtmenijpllddjnaaDoor.Window
