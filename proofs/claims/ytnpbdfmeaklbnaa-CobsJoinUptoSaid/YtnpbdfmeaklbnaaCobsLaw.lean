/- Contracts of what the laws of package cobs call besides. No statement is proved here. -/
import Derived.Test.YtnpbdfmeaklbnaaCobs4
import Derived.Test.YtnpbdfmeaklbnaaSame
namespace Go.Proofs.Ytnpbdfmeaklbnaa.Cobs
open Go.ChangeShapes Go.WideShapes Go.ChangeAt Go.RowKit
open Go.Proofs.Ytnpbdfmeaklbnaa.Kit Go.Proofs.Ytnpbdfmeaklbnaa.App Go.Proofs.Ytnpbdfmeaklbnaa.CobsMath
set_option linter.unusedVariables false
set_option maxRecDepth 20000

theorem in_yes (n a b : Int) (w : World) (h : a ≤ n ∧ n ≤ b) : Calls Try.prog 7 #[.int .i64 n, .int .i64 a, .int .i64 b] w fun e w' => e = .returned (.bool true) ∧ w = w' := by
  obtain ⟨h1, h2⟩ := h
  have t1 : decide (a ≤ n) = true := decide_eq_true h1
  have t2 : decide (n ≤ b) = true := decide_eq_true h2
  go_enter Try.func7, Try.ntmps7
  go_wp2
  go_ret
  exact ⟨rfl, rfl⟩

theorem enc_709 : enc [7, 0, 9] = [2, 7, 2, 9] := by
  rw [enc_more (by decide), show nxt [7, 0, 9] = [9] by decide, enc_end (by decide)]
  decide
theorem dec_11 : dec [1, 1] = some [0] := by
  have h := dec_enc [0]
  rw [enc_nought, enc_end (by decide)] at h
  exact h

theorem fact_any (w : World) : Calls Try.prog 5 #[] w fun e w' => e = .returned (.bool true) ∧ Below w.heap.size w w' := by
  have s1 := fun W : World => write_ok (some ⟨W.heap.size, 0, none⟩) 3 3 [7, 0, 9] _ rfl (lit_ints W [7, 0, 9] (by decide) (by decide)) (by decide)
  have s2 := fun W : World => read_ok (some ⟨W.heap.size, 0, none⟩) 2 2 [1, 1] _ rfl (lit_ints W [1, 1] (by decide) (by decide)) (by decide) (by decide) [0] dec_11 (by decide)
  have s3 := fun W : World => lit_ints W [2, 7, 2, 9] (by decide) (by decide)
  have s4 := fun W : World => lit_ints W [0] (by decide) (by decide)
  simp only [enc_709] at s1
  simp only [List.length_cons, List.length_nil, Nat.reduceAdd, List.map_cons, List.map_nil, List.toArray] at s1 s2 s3 s4
  have S1 := Lib.hid s1
  have S2 := Lib.hid s2
  have S3 := Lib.hid s3
  have S4 := Lib.hid s4
  clear s1 s2 s3 s4
  go_enter Try.func5, Try.ntmps5
  go_wp2_with fail
  refine (S1.out _).mono ?_; rintro e w1 ⟨v, rfl, ho, hb1⟩
  have hB1 : Below w.heap.size w w1 := bcall (balloc (brefl w) _) hb1
  obtain ⟨p, cap, rfl, hi⟩ := ho.form
  clear ho hb1
  go_wp2_with fail
  refine (S2.out _).mono ?_; rintro e w2 ⟨v2, rfl, ho2, hb2⟩
  have hb2' : Below w1.heap.size w1 w2 := bcall (balloc (brefl w1) _) hb2
  have hB2 : Below w.heap.size w w2 := bcall hB1 hb2'
  obtain ⟨p2, cap2, rfl, hi2⟩ := ho2.form
  have hj := hi.below hb2'
  clear ho2 hb2 hb2' hB1 hi
  go_wp2_with fail
  refine (ints_any p _ cap 4 4 4 [2, 7, 2, 9] [2, 7, 2, 9] _ rfl rfl (Ints.below hj (balloc (brefl w2) _)) (S3.out w2) true rfl).mono ?_; rintro e w3 ⟨rfl, hb3⟩
  have hb3' : Below w2.heap.size w2 w3 := bcall (balloc (brefl w2) _) hb3
  have hB3 := bcall hB2 hb3'
  have hj2 := hi2.below hb3'
  clear hb3 hb3' hi2 hj
  go_wp2_with fail
  refine (ints_any p2 _ cap2 1 1 1 [0] [0] _ rfl rfl (Ints.below hj2 (balloc (brefl w3) _)) (S4.out w3) true rfl).mono ?_; rintro e w4 ⟨rfl, hb4⟩
  have hB4 := bcall (balloc hB3 _) hb4
  go_wp2_with fail
  go_ret
  exact ⟨rfl, hB4⟩
end Go.Proofs.Ytnpbdfmeaklbnaa.Cobs
