/- The contract of what the laws of package abp call besides. No statement is proved here. -/
import Derived.Test.YtjphjmgjhnpnjaaAbp2
import Derived.Test.YtjphjmgjhnpnjaaSame
namespace Go.Proofs.Ytjphjmgjhnpnjaa.Abp
open Go.ChangeShapes Go.WideShapes Go.ChangeAt Go.RowKit Go.Proofs.Ytjphjmgjhnpnjaa.Kit Go.Proofs.Ytjphjmgjhnpnjaa.App Go.Proofs.Ytjphjmgjhnpnjaa.Cells Go.Proofs.Ytjphjmgjhnpnjaa.Fate Go.Proofs.Ytjphjmgjhnpnjaa.AbpMath
set_option linter.unusedVariables false
set_option maxRecDepth 20000

def litF : List Fat := [⟨false, true⟩, ⟨false, false⟩, ⟨false, false⟩]
abbrev W1 (W : World) : World := W.alloc (.cells #[.int .i64 5, .int .i64 6] 3)
abbrev W2 (W : World) : World := (W1 W).alloc (.cells #[.bool false, .bool true, .bool false, .bool false, .bool false, .bool false] 32)
theorem lit_56 (W : World) : Ints (W1 W) (some ⟨W.heap.size, 0, none⟩) 2 [5, 6] := lit_ints W [5, 6] (by decide) (by decide)
theorem lit_f (W : World) : CI lay (W2 W) (some ⟨W.heap.size + 1, 0, none⟩) 3 litF := by
  have h := lit_fates (W1 W) litF 32 (by decide)
  rw [asz] at h
  exact h
set_option maxHeartbeats 1000000 in
theorem fact_any (w : World) : Calls Try.prog 5 #[] w fun e w' => e = .returned (.bool true) ∧ Below w.heap.size w w' := by
  have s1 := fun W : World => run_good (some ⟨W.heap.size, 0, none⟩) (some ⟨W.heap.size + 1, 0, none⟩) 2 3 2 3 [5, 6] litF (W2 W) rfl rfl ((lit_56 W).below (balloc (brefl _) _)) (lit_f W) (by decide) 2 2 (by decide)
  have s3 := fun (W : World) p c (h : Ints W p c [5, 6]) => ints_any p (some ⟨W.heap.size, 0, none⟩) c 2 2 2 [5, 6] [5, 6] (W1 W) rfl rfl (h.below (balloc (brefl _) _)) (lit_56 W) true rfl
  have S1 := Lib.hid s1
  have S3 := Lib.hid s3
  unfold W2 W1 at S1
  unfold W1 at S3
  clear s1 s3
  go_enter Try.func5, Try.ntmps5
  go_wp2_with fail
  refine (S1.out _).mono ?_; rintro e w1 ⟨v, rfl, ho, hb1⟩
  have hB1 : Below w.heap.size w w1 := (balloc (balloc (brefl w) _) _).trans (hb1.mono (by simp; omega))
  obtain ⟨p, cap, rfl, hi⟩ := ho.form
  have HI := Lib.hid (show Ints w1 p cap [5, 6] from hi)
  rw [show (List.take 2 [(5 : Int), 6]).length = 2 from rfl]
  clear ho hb1 hi
  go_wp2_with fail
  refine (S3.out _ _ _ HI.out).mono ?_; rintro e w2 ⟨rfl, hb2⟩
  have hB2 := (balloc hB1 _).trans (hb2.mono (Nat.le_trans hB1.size (by simp)))
  go_wp2_with fail
  go_ret
  exact ⟨rfl, hB2⟩
end Go.Proofs.Ytjphjmgjhnpnjaa.Abp
