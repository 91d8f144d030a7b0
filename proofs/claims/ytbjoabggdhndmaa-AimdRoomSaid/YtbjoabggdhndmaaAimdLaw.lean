/- The laws' aimdFact, and the statements' Sum. No statement is proved here. -/
import Derived.Test.YtbjoabggdhndmaaAimd3
import Derived.Test.YtbjoabggdhndmaaSame
namespace Go.Proofs.Ytbjoabggdhndmaa.Aimd
open Go.ChangeShapes Go.WideShapes Go.ChangeAt Go.RowKit Go.Proofs.Ytbjoabggdhndmaa.Kit Go.Proofs.Ytbjoabggdhndmaa.App Go.Proofs.Ytbjoabggdhndmaa.Err Go.Proofs.Ytbjoabggdhndmaa.AimdMath
set_option linter.unusedVariables false
set_option maxRecDepth 20000

set_option maxHeartbeats 1000000 in
theorem fact_any (w : World) : Calls Try.prog 6 #[] w fun e w' => e = .returned (.bool true) ∧ Below w.heap.size w w' := by
  have R1 := Lib.hid (fun W : World => run_good (some ⟨W.heap.size, 0, none⟩) 2 2 2 7 [8, 0] (W.alloc (.cells #[.int .i64 8, .int .i64 0] 3)) rfl (lit_ints W [8, 0] (by decide) (by decide)) (by decide) (by omega))
  have e1 : (H 7 [8, 0] 2 : Int) = 1 := by decide
  have e2 : rates 7 [8, 0] 2 = [5, 1] := by decide
  rw [e1, e2] at R1
  have E1 := Lib.hid (fun (W : World) p c (h : Ints W p c [5, 1]) => ints_any p (some ⟨W.heap.size, 0, none⟩) c 2 2 2 [5, 1] [5, 1] (W.alloc (.cells #[.int .i64 5, .int .i64 1] 3)) rfl rfl (h.below (balloc (brefl _) _)) (lit_ints W [5, 1] (by decide) (by decide)) true rfl)
  clear e1 e2
  go_enter Try.func6, Try.ntmps6
  go_wp2_with fail
  refine (R1.out _).mono ?_; rintro e w1 ⟨⟨v, rfl, ho⟩, hb1⟩
  have hB1 : Below w.heap.size w w1 := (balloc (brefl w) _).trans (hb1.mono (by simp))
  obtain ⟨p, cap, rfl, hi⟩ := ho.form
  have HI := Lib.hid (show Ints w1 p cap [5, 1] from hi)
  rw [show [(5 : Int), 1].length = 2 from rfl]
  clear ho hb1 hi R1
  go_wp2_with fail
  refine (E1.out _ _ _ HI.out).mono ?_; rintro e w2 ⟨rfl, hb2⟩
  have hB2 : Below w.heap.size w w2 := bcall hB1 ((balloc (brefl w1) _).trans (hb2.mono (by simp)))
  go_wp2_with fail
  go_ret
  exact ⟨rfl, hB2⟩
end Go.Proofs.Ytbjoabggdhndmaa.Aimd
