/- The contract of what the laws of package gbn call besides. No statement is proved here. -/
import Derived.Test.YtainefacghlmjaaGbn2
import Derived.Test.YtainefacghlmjaaSame
namespace Go.Proofs.Ytainefacghlmjaa.Gbn
open Go.ChangeShapes Go.WideShapes Go.ChangeAt Go.RowKit Go.Proofs.Ytainefacghlmjaa.Kit Go.Proofs.Ytainefacghlmjaa.App Go.Proofs.Ytainefacghlmjaa.Cells Go.Proofs.Ytainefacghlmjaa.Fate Go.Proofs.Ytainefacghlmjaa.Abp Go.Proofs.Ytainefacghlmjaa.GbnMath
set_option linter.unusedVariables false
set_option maxRecDepth 20000

def litA : List Fat := [⟨false, true⟩, ⟨false, true⟩, ⟨false, false⟩]
def litB : List Fat := [⟨false, false⟩, ⟨false, false⟩, ⟨false, false⟩]
abbrev V1 (W : World) : World := W.alloc (.cells #[.int .i64 5, .int .i64 6, .int .i64 7] 3)
abbrev VA (W : World) : World := (V1 W).alloc (.cells #[.bool false, .bool true, .bool false, .bool true, .bool false, .bool false] 35)
abbrev VB (W : World) : World := (V1 W).alloc (.cells #[.bool false, .bool false, .bool false, .bool false, .bool false, .bool false] 35)
abbrev V2 (W : World) : World := W.alloc (.cells #[.int .i64 5, .int .i64 6, .int .i64 5] 3)
theorem lit_567 (W : World) : Ints (V1 W) (some ⟨W.heap.size, 0, none⟩) 3 [5, 6, 7] := lit_ints W [5, 6, 7] (by decide) (by decide)
theorem lit_565 (W : World) : Ints (V2 W) (some ⟨W.heap.size, 0, none⟩) 3 [5, 6, 5] := lit_ints W [5, 6, 5] (by decide) (by decide)
theorem lit_a (W : World) : CI lay (VA W) (some ⟨W.heap.size + 1, 0, none⟩) 3 litA := by
  have h := lit_fates (V1 W) litA 35 (by decide)
  rw [aszG] at h
  exact h
theorem lit_b (W : World) : CI lay (VB W) (some ⟨W.heap.size + 1, 0, none⟩) 3 litB := by
  have h := lit_fates (V1 W) litB 35 (by decide)
  rw [aszG] at h
  exact h
set_option maxHeartbeats 1000000 in
theorem fact_any (w : World) : Calls Try.prog 6 #[] w fun e w' => e = .returned (.bool true) ∧ Below w.heap.size w w' := by
  have s1 : ∀ W : World, Calls Try.prog 7 #[.slice (some ⟨W.heap.size, 0, none⟩) 3 3, .int .i64 2, .int .i64 2, .slice (some ⟨W.heap.size + 1, 0, none⟩) 3 3] (VA W) fun e w' => ∃ v, e = .returned (.tuple #[v, .int .i64 1, .nilIface]) ∧ OwnI w' (VA W).heap.size v [5, 6, 5] ∧ Below (VA W).heap.size (VA W) w' :=
    fun W => run_good (some ⟨W.heap.size, 0, none⟩) (some ⟨W.heap.size + 1, 0, none⟩) 3 3 3 3 2 2 [5, 6, 7] litA (VA W) rfl rfl ((lit_567 W).below (balloc (brefl _) _)) (lit_a W) (by decide) 1 [5, 6, 5] (by decide)
  have s2 : ∀ W : World, Calls Try.prog 7 #[.slice (some ⟨W.heap.size, 0, none⟩) 3 3, .int .i64 2, .int .i64 3, .slice (some ⟨W.heap.size + 1, 0, none⟩) 3 3] (VB W) fun e w' => ∃ v, e = .returned (.tuple #[v, .int .i64 3, .nilIface]) ∧ OwnI w' (VB W).heap.size v [5, 6, 7] ∧ Below (VB W).heap.size (VB W) w' :=
    fun W => run_good (some ⟨W.heap.size, 0, none⟩) (some ⟨W.heap.size + 1, 0, none⟩) 3 3 3 3 2 3 [5, 6, 7] litB (VB W) rfl rfl ((lit_567 W).below (balloc (brefl _) _)) (lit_b W) (by decide) 3 [5, 6, 7] (by decide)
  have s3 := fun (W : World) p c (h : Ints W p c [5, 6, 5]) => ints_any p (some ⟨W.heap.size, 0, none⟩) c 3 3 3 [5, 6, 5] [5, 6, 5] (V2 W) rfl rfl (h.below (balloc (brefl _) _)) (lit_565 W) true rfl
  have s4 := fun (W : World) p c (h : Ints W p c [5, 6, 7]) => ints_any p (some ⟨W.heap.size, 0, none⟩) c 3 3 3 [5, 6, 7] [5, 6, 7] (V1 W) rfl rfl (h.below (balloc (brefl _) _)) (lit_567 W) true rfl
  have S1 := Lib.hid s1
  have S2 := Lib.hid s2
  have S3 := Lib.hid s3
  have S4 := Lib.hid s4
  unfold VA V1 at S1
  unfold VB V1 at S2
  unfold V2 at S3
  unfold V1 at S4
  clear s1 s2 s3 s4
  go_enter Try.func6, Try.ntmps6
  go_wp2_with fail
  refine (S1.out _).mono ?_; rintro e w1 ⟨v, rfl, ho, hb1⟩
  have hB1 : Below w.heap.size w w1 := (balloc (balloc (brefl w) _) _).trans (hb1.mono (by simp; omega))
  obtain ⟨p, cap, rfl, hi⟩ := ho.form
  have HI := Lib.hid (show Ints w1 p cap [5, 6, 5] from hi)
  rw [show [(5 : Int), 6, 5].length = 3 from rfl]
  clear ho hb1 hi
  go_wp2_with fail
  refine (S2.out _).mono ?_; rintro e w2 ⟨v, rfl, ho, hb2⟩
  have hB12 : Below w1.heap.size w1 w2 := (balloc (balloc (brefl w1) _) _).trans (hb2.mono (by simp; omega))
  have hB2 := bcall hB1 hB12
  obtain ⟨p2, cap2, rfl, hi2⟩ := ho.form
  have HI1 := Lib.hid (HI.out.below hB12)
  have HI2 := Lib.hid (show Ints w2 p2 cap2 [5, 6, 7] from hi2)
  rw [show [(5 : Int), 6, 7].length = 3 from rfl]
  clear ho hb2 hi2 HI hB12
  go_wp2_with fail
  refine (S3.out _ _ _ HI1.out).mono ?_; rintro e w3 ⟨rfl, hb3⟩
  have hB23 : Below w2.heap.size w2 w3 := (balloc (brefl w2) _).trans (hb3.mono (by simp))
  have hB3 := bcall hB2 hB23
  have HI3 := Lib.hid (HI2.out.below hB23)
  clear hb3 HI2 hB23
  go_wp2_with fail
  refine (S4.out _ _ _ HI3.out).mono ?_; rintro e w4 ⟨rfl, hb4⟩
  have hB34 : Below w3.heap.size w3 w4 := (balloc (brefl w3) _).trans (hb4.mono (by simp))
  have hB4 := bcall hB3 hB34
  go_wp2_with fail
  go_ret
  exact ⟨rfl, hB4⟩
end Go.Proofs.Ytainefacghlmjaa.Gbn
