/- The laws' helper maxminFact. No statement is proved here. -/
import Derived.Test.YtggnpecmldnmnaaMax3
import Derived.Test.YtggnpecmldnmnaaSame
namespace Go.Proofs.Ytggnpecmldnmnaa.Maxmin
open Go.ChangeShapes Go.WideShapes Go.ChangeAt Go.RowKit Go.Proofs.Ytggnpecmldnmnaa.Kit Go.Proofs.Ytggnpecmldnmnaa.App Go.Proofs.Ytggnpecmldnmnaa.Err Go.Proofs.Ytggnpecmldnmnaa.Drr
set_option linter.unusedVariables false
set_option maxRecDepth 20000
set_option maxHeartbeats 2000000

theorem fact_runs : ∃ N r, Runs [10, 4] [[0], [0, 1], [1]] (fun _ => 0) all N r ∧ (lt 3 fun y => r y.toNat) = [8, 2, 2] := by
  refine ⟨_, _, .inc _ _ _ _ (by decide +kernel) (by decide +kernel) (.inc _ _ _ _ (by decide +kernel) (by decide +kernel) (.cut _ _ _ _ (by decide +kernel)
    (.inc _ _ _ _ (by decide +kernel) (by decide +kernel) (.inc _ _ _ _ (by decide +kernel) (by decide +kernel) (.inc _ _ _ _ (by decide +kernel) (by decide +kernel)
    (.inc _ _ _ _ (by decide +kernel) (by decide +kernel) (.inc _ _ _ _ (by decide +kernel) (by decide +kernel) (.inc _ _ _ _ (by decide +kernel) (by decide +kernel)
    (.cut _ _ _ _ (by decide +kernel) (.done _ _ (by decide +kernel))))))))))), by decide +kernel⟩
theorem fact_good : Good [10, 4] [[0], [0, 1], [1]] := code_zero.1 (by decide +kernel)
theorem fact_rows (w : World) : RowsI ((((w.alloc (.cells #[.int .i64 0] 3)).alloc (.cells #[.int .i64 0, .int .i64 1] 3)).alloc (.cells #[.int .i64 1] 3)).alloc (.cells #[.slice (some ⟨w.heap.size, 0, none⟩) 1 1, .slice (some ⟨w.heap.size + 1, 0, none⟩) 2 2, .slice (some ⟨w.heap.size + 2, 0, none⟩) 1 1] 22)) (some ⟨w.heap.size + 3, 0, none⟩) 3 [[0], [0, 1], [1]] := by
  have h1 := lit_ints w [0] (by decide) (by decide)
  have h2 : Ints ((w.alloc (.cells #[.int .i64 0] 3)).alloc (.cells #[.int .i64 0, .int .i64 1] 3)) (some ⟨w.heap.size + 1, 0, none⟩) 2 [0, 1] := by
    have := lit_ints (w.alloc (.cells #[.int .i64 0] 3)) [0, 1] (by decide) (by decide)
    simpa using this
  have h3 : Ints (((w.alloc (.cells #[.int .i64 0] 3)).alloc (.cells #[.int .i64 0, .int .i64 1] 3)).alloc (.cells #[.int .i64 1] 3)) (some ⟨w.heap.size + 2, 0, none⟩) 1 [1] := by
    have := lit_ints ((w.alloc (.cells #[.int .i64 0] 3)).alloc (.cells #[.int .i64 0, .int .i64 1] 3)) [1] (by decide) (by decide)
    simpa using this
  refine ⟨by simp, by simp [maxLen], fun _ => ⟨w.heap.size + 3, 0, rfl, by simp, fun j hj => ?_⟩⟩
  rcases j with _|_|_|j
  · exact ⟨_, _, by go_simp, ((h1.below (balloc (brefl _) _)).below (balloc (brefl _) _)).below (balloc (brefl _) _)⟩
  · exact ⟨_, _, by go_simp, (h2.below (balloc (brefl _) _)).below (balloc (brefl _) _)⟩
  · exact ⟨_, _, by go_simp, h3.below (balloc (brefl _) _)⟩
  · have : j + 1 + 1 + 1 < 3 := hj
    omega
theorem fact_any (w : World) : Calls Try.prog 7 #[] w fun e w' => e = .returned (.bool true) ∧ Below w.heap.size w w' := by
  obtain ⟨N, r, hr, h3⟩ := fact_runs
  have SH := Lib.hid (fun W : World => share_good (some ⟨W.heap.size, 0, none⟩) 2 2 [10, 4] (some ⟨W.heap.size + 4, 0, none⟩) 3 3 [[0], [0, 1], [1]] (((((W.alloc (.cells #[.int .i64 10, .int .i64 4] 3)).alloc (.cells #[.int .i64 0] 3)).alloc (.cells #[.int .i64 0, .int .i64 1] 3)).alloc (.cells #[.int .i64 1] 3)).alloc (.cells #[.slice (some ⟨W.heap.size + 1, 0, none⟩) 1 1, .slice (some ⟨W.heap.size + 2, 0, none⟩) 2 2, .slice (some ⟨W.heap.size + 3, 0, none⟩) 1 1] 22)) rfl
    (((((lit_ints W [10, 4] (by decide) (by decide)).below (balloc (brefl _) _)).below (balloc (brefl _) _)).below (balloc (brefl _) _)).below (balloc (brefl _) _)) rfl (by
      have := fact_rows (W.alloc (.cells #[.int .i64 10, .int .i64 4] 3))
      simpa using this) fact_good N r hr)
  rw [h3] at SH
  clear hr h3
  go_enter Try.func7, Try.ntmps7
  go_wp2_with fail
  refine (SH.out w).mono ?_; rintro e w1 ⟨c, rfl, hI, hb⟩
  have HB1 := Lib.hid (bcall (balloc (balloc (balloc (balloc (balloc (brefl w) _) _) _) _) _) hb)
  obtain ⟨p, cp, hf, hi⟩ := hI.form
  injection hf with hf1 _ hf2
  subst hf1; subst hf2
  have SM := Lib.hid (ints_any c (some ⟨w1.heap.size, 0, none⟩) 3 3 3 3 [8, 2, 2] [8, 2, 2] (w1.alloc (.cells #[.int .i64 8, .int .i64 2, .int .i64 2] 3)) rfl rfl (hi.below (balloc (brefl _) _)) (lit_ints w1 [8, 2, 2] (by decide) (by decide)) true (by decide))
  clear SH hb hI hi
  go_wp2_with fail
  refine SM.out.mono ?_; rintro e w3 ⟨rfl, hb3⟩
  have HB3 := Lib.hid (bcall (balloc HB1.out _) hb3)
  clear SM hb3
  go_wp2_with fail
  go_ret
  exact ⟨by first | rfl | simp, HB3.out⟩
end Go.Proofs.Ytggnpecmldnmnaa.Maxmin
