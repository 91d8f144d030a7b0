/- The contract of the closed fact that the laws of package line begin with. No statement is proved here. -/
import Derived.Test.YtooicigocljomaaDoorLine7
import Derived.Test.YtooicigocljomaaDoorSame
namespace Go.Proofs.YtooicigocljomaaDoor.Line
open Go.ChangeShapes Go.WideShapes Go.ChangeAt Go.RowKit
open Go.Proofs.YtooicigocljomaaDoor.Kit Go.Proofs.YtooicigocljomaaDoor.App Go.Proofs.YtooicigocljomaaDoor.LineMath
set_option linter.unusedVariables false
set_option maxRecDepth 20000

theorem fact_any (w : World) (hC : Codes w) : Calls Tryd.prog 18 #[] w fun e w' => e = .returned (.bool true) ∧ Below w.heap.size w w' := by
  have s1 := fun W : World => five_ok (some ⟨W.heap.size, 0, none⟩) 1 1 [0] _ rfl (lit_ints W [0] (by decide) (by decide)) (by decide)
  have s2 := fun W : World => turns_ok (some ⟨W.heap.size, 0, none⟩) 3 3 [1, 0, 1] _ rfl (lit_ints W [1, 0, 1] (by decide) (by decide)) (by decide)
  have s3 := fun W : World => lit_ints W [1, 1, 1, 1, 0] (by decide) (by decide)
  have s4 := fun W : World => lit_ints W [1, 1, 0] (by decide) (by decide)
  rw [show five [0] = [1, 1, 1, 1, 0] by decide] at s1
  rw [show turns 0 [1, 0, 1] = [1, 1, 0] by decide] at s2
  simp only [List.length_cons, List.length_nil, Nat.reduceAdd, List.map_cons, List.map_nil, List.toArray] at s1 s2 s3 s4
  have S1 := Lib.hid s1
  have S2 := Lib.hid s2
  have S3 := Lib.hid s3
  have S4 := Lib.hid s4
  have HC := Lib.hid hC
  clear s1 s2 s3 s4 hC
  go_enter Tryd.func18, Tryd.ntmps18
  go_wp2_with fail
  refine (S1.out _ (HC.out.below (balloc (brefl w) _))).mono ?_; rintro e w1 ⟨v, rfl, ho, hb1⟩
  have hB1 : Below w.heap.size w w1 := bcall (balloc (brefl w) _) hb1
  obtain ⟨p, cap, rfl, hi⟩ := ho.form
  clear ho hb1
  go_wp2_with fail
  refine (S2.out _).mono ?_; rintro e w2 ⟨v2, rfl, ho2, hb2⟩
  have hb2' : Below w1.heap.size w1 w2 := bcall (balloc (brefl w1) _) hb2
  have hB2 : Below w.heap.size w w2 := bcall hB1 hb2'
  obtain ⟨p2, cap2, rfl, hi2⟩ := ho2.form
  have hj := hi.below hb2'
  clear ho2 hb2 hb2' hB1 hi
  go_wp2_with fail
  refine (ints_any p _ cap 5 5 5 [1, 1, 1, 1, 0] [1, 1, 1, 1, 0] _ rfl rfl (Ints.below hj (balloc (brefl w2) _)) (S3.out w2) true rfl).mono ?_; rintro e w3 ⟨rfl, hb3⟩
  have hb3' : Below w2.heap.size w2 w3 := bcall (balloc (brefl w2) _) hb3
  have hB3 := bcall hB2 hb3'
  have hj2 := hi2.below hb3'
  clear hb3 hb3' hi2 hj
  go_wp2_with fail
  refine (ints_any p2 _ cap2 3 3 3 [1, 1, 0] [1, 1, 0] _ rfl rfl (Ints.below hj2 (balloc (brefl w3) _)) (S4.out w3) true rfl).mono ?_; rintro e w4 ⟨rfl, hb4⟩
  have hB4 := bcall (balloc hB3 _) hb4
  go_wp2_with fail
  go_ret
  exact ⟨rfl, hB4⟩
end Go.Proofs.YtooicigocljomaaDoor.Line
