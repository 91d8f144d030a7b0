/- curveFact. No statement is proved here. -/
import Derived.Test.YtfinfdcpepiadaaCurve3
import Derived.Test.YtfinfdcpepiadaaSame
namespace Go.Proofs.Ytfinfdcpepiadaa.Curve
open Go.ChangeShapes Go.WideShapes Go.ChangeAt Go.RowKit Go.Proofs.Ytfinfdcpepiadaa.Kit Go.Proofs.Ytfinfdcpepiadaa.App Go.Proofs.Ytfinfdcpepiadaa.Err Go.Proofs.Ytfinfdcpepiadaa.Curve
set_option linter.unusedVariables false
set_option maxRecDepth 20000
set_option maxHeartbeats 2000000

theorem fact_any (w : World) : Calls Try.prog 8 #[] w fun e w' => e = .returned (.bool true) ∧ Below w.heap.size w w' := by
  have L1 := Lib.hid (fun W : World => fold_any (some ⟨W.heap.size, 0, none⟩) (some ⟨W.heap.size + 1, 0, none⟩) 3 3 3 3 [1, 2, 9] [0, 3, 4] ((W.alloc (.cells #[.int .i64 1, .int .i64 2, .int .i64 9] 3)).alloc (.cells #[.int .i64 0, .int .i64 3, .int .i64 4] 3)) rfl rfl ((lit_ints W [1, 2, 9] (by decide) (by decide)).below (balloc (brefl _) _)) (by have := lit_ints (W.alloc (.cells #[.int .i64 1, .int .i64 2, .int .i64 9] 3)) [0, 3, 4] (by decide) (by decide); simpa using this) 0 (by decide) [1, 2, 5] (by decide) 3 rfl)
  have L2 := Lib.hid (fun W : World => back_any (some ⟨W.heap.size, 0, none⟩) (some ⟨W.heap.size + 1, 0, none⟩) 2 2 2 2 [4, 4] [1, 4] ((W.alloc (.cells #[.int .i64 4, .int .i64 4] 3)).alloc (.cells #[.int .i64 1, .int .i64 4] 3)) rfl rfl ((lit_ints W [4, 4] (by decide) (by decide)).below (balloc (brefl _) _)) (by have := lit_ints (W.alloc (.cells #[.int .i64 4, .int .i64 4] 3)) [1, 4] (by decide) (by decide); simpa using this) 0 (by decide) 3 (by decide))
  have L3 := Lib.hid (fun W : World => wait_any (some ⟨W.heap.size, 0, none⟩) (some ⟨W.heap.size + 1, 0, none⟩) 2 2 2 2 [4, 4] [1, 4] ((W.alloc (.cells #[.int .i64 4, .int .i64 4] 3)).alloc (.cells #[.int .i64 1, .int .i64 4] 3)) rfl rfl ((lit_ints W [4, 4] (by decide) (by decide)).below (balloc (brefl _) _)) (by have := lit_ints (W.alloc (.cells #[.int .i64 4, .int .i64 4] 3)) [1, 4] (by decide) (by decide); simpa using this) 0 (by decide) 1 (by decide))
  rw [er_0] at L1 L2 L3
  go_enter Try.func8, Try.ntmps8
  go_wp2_with fail
  refine (L1.out _).mono ?_; rintro e w1 ⟨⟨r, cr, rfl, hI⟩, hb⟩
  have HI := Lib.hid hI
  have HB1 : Hid (Below w.heap.size w w1) := Lib.hid (bcall (balloc (balloc (brefl w) _) _) hb)
  clear L1 hb hI
  go_wp2_with fail
  refine (L2.out _).mono ?_; rintro e w2 ⟨rfl, i2, rfl⟩
  have HB2 : Hid (Below w1.heap.size w1 (((w1.alloc (.cells #[.int .i64 4, .int .i64 4] 3)).alloc (.cells #[.int .i64 1, .int .i64 4] 3)).drewN i2)) := Lib.hid (bdrewN (balloc (balloc (brefl w1) _) _) i2)
  clear L2
  generalize (((w1.alloc (.cells #[.int .i64 4, .int .i64 4] 3)).alloc (.cells #[.int .i64 1, .int .i64 4] 3)).drewN i2) = w2 at HB2 ⊢
  go_wp2_with fail
  refine (L3.out _).mono ?_; rintro e w3 ⟨rfl, i3, rfl⟩
  have HB3 : Hid (Below w1.heap.size w1 (((w2.alloc (.cells #[.int .i64 4, .int .i64 4] 3)).alloc (.cells #[.int .i64 1, .int .i64 4] 3)).drewN i3)) := Lib.hid (bdrewN (balloc (balloc HB2.out _) _) i3)
  clear L3 HB2
  generalize (((w2.alloc (.cells #[.int .i64 4, .int .i64 4] 3)).alloc (.cells #[.int .i64 1, .int .i64 4] 3)).drewN i3) = w3 at HB3 ⊢
  have SM := Lib.hid (ints_any r (some ⟨w3.heap.size, 0, none⟩) cr 3 3 3 [1, 2, 5] [1, 2, 5] (w3.alloc (.cells #[.int .i64 1, .int .i64 2, .int .i64 5] 3)) rfl rfl ((HI.out.below HB3.out).below (balloc (brefl _) _)) (lit_ints w3 [1, 2, 5] (by decide) (by decide)) true (by decide))
  go_wp2_with fail
  refine SM.out.mono ?_; rintro e w4 ⟨rfl, hb4⟩
  have HB4 := Lib.hid (bcall HB1.out (bcall (balloc HB3.out _) hb4))
  clear SM HB1 HB3 hb4
  go_wp2_with fail
  go_ret
  exact ⟨by first | rfl | simp, HB4.out⟩
end Go.Proofs.Ytfinfdcpepiadaa.Curve
