/- Contracts of what the laws of package stuff call besides. No statement is proved here. -/
import Derived.Test.YtfgkbogccaiceaaStuff3
namespace Go.Proofs.Ytfgkbogccaiceaa.Stuff
open Go.ChangeShapes Go.WideShapes Go.ChangeAt Go.RowKit
open Go.Proofs.Ytfgkbogccaiceaa.Kit Go.Proofs.Ytfgkbogccaiceaa.App Go.Proofs.Ytfgkbogccaiceaa.StuffMath
set_option linter.unusedVariables false

theorem in_yes (n a b : Int) (w : World) (h : a ≤ n ∧ n ≤ b) : Calls Try.prog 10 #[.int .i64 n, .int .i64 a, .int .i64 b] w fun e w' => e = .returned (.bool true) ∧ w = w' := by
  obtain ⟨h1, h2⟩ := h
  have t1 : decide (a ≤ n) = true := decide_eq_true h1
  have t2 : decide (n ≤ b) = true := decide_eq_true h2
  go_enter Try.func10, Try.ntmps10
  go_wp2
  go_ret
  exact ⟨rfl, rfl⟩

theorem fact_any (w : World) : Calls Try.prog 6 #[] w fun e w' => e = .returned (.bool true) ∧ Below w.heap.size w w' := by
  have s1 := fun W : World => stuff_ok (some ⟨W.heap.size, 0, none⟩) 6 6 [1, 1, 1, 1, 1, 1] _ rfl (lit_ints W [1, 1, 1, 1, 1, 1] (by decide) (by decide)) (by decide)
  have e1 : stf 0 [1, 1, 1, 1, 1, 1] = [1, 1, 1, 1, 1, 0, 1] := by decide
  have s2 := fun W : World => lit_ints W [1, 1, 1, 1, 1, 0, 1] (by decide) (by decide)
  rw [e1] at s1
  simp only [List.length_cons, List.length_nil, Nat.reduceAdd, List.map_cons, List.map_nil, List.toArray] at s1 s2
  have S1 := Lib.hid s1
  have S2 := Lib.hid s2
  clear s1 s2 e1
  go_enter Try.func6, Try.ntmps6
  go_wp2_with fail
  refine (S1.out _).mono ?_; rintro e w1 ⟨v, rfl, ho, hb1⟩
  obtain ⟨p, cap, rfl, hi⟩ := ho.form
  have hi2 := Ints.below (w' := w1.alloc (.cells #[.int .i64 1, .int .i64 1, .int .i64 1, .int .i64 1, .int .i64 1, .int .i64 0, .int .i64 1] 3)) hi (balloc (brefl w1) _)
  have hB1 : Below w.heap.size w w1 := bcall (balloc (brefl w) _) hb1
  clear hi ho hb1
  go_wp2_with fail
  refine (ints_any p _ cap 7 7 7 [1, 1, 1, 1, 1, 0, 1] [1, 1, 1, 1, 1, 0, 1] _ rfl rfl hi2 (S2.out w1) true rfl).mono ?_; rintro e w2 ⟨rfl, hb2⟩
  have hB2 : Below w.heap.size w w2 := bcall (balloc hB1 _) hb2
  go_wp2_with fail
  refine (flag_any w2).mono ?_; rintro e w3 ⟨rfl, ho3, hb3⟩
  go_wp2_with fail
  go_ret
  exact ⟨rfl, bcall hB2 hb3⟩
end Go.Proofs.Ytfgkbogccaiceaa.Stuff
