/- The contract of what the laws of package srep call besides. No statement is proved here. -/
import Derived.Test.YthiebkkfgegebaaSrep2
import Derived.Test.YthiebkkfgegebaaSrepMore
import Derived.Test.YthiebkkfgegebaaSame
import Derived.Deep.Cut
namespace Go.Proofs.Ythiebkkfgegebaa.Srep
open Go.ChangeShapes Go.WideShapes Go.ChangeAt Go.RowKit Go.Proofs.Ythiebkkfgegebaa.Kit Go.Proofs.Ythiebkkfgegebaa.App Go.Proofs.Ythiebkkfgegebaa.Cells Go.Proofs.Ythiebkkfgegebaa.Fate Go.Proofs.Ythiebkkfgegebaa.Abp Go.Proofs.Ythiebkkfgegebaa.Gbn Go.Proofs.Ythiebkkfgegebaa.SrepMath
set_option linter.unusedVariables false
set_option maxRecDepth 20000

def litF : List Fat := [⟨false, true⟩, ⟨false, true⟩, ⟨false, false⟩, ⟨false, false⟩, ⟨false, false⟩]
abbrev VF (W : World) : World := W.alloc (.cells #[.bool false, .bool true, .bool false, .bool true, .bool false, .bool false, .bool false, .bool false, .bool false, .bool false] 32)
abbrev VD (W : World) : World := W.alloc (.cells #[.int .i64 5, .int .i64 6, .int .i64 7, .int .i64 8] 3)
abbrev V5 (W : World) : World := W.alloc (.cells #[.int .i64 5, .int .i64 6, .int .i64 7, .int .i64 5] 3)
abbrev V7 (W : World) : World := W.alloc (.cells #[.int .i64 5, .int .i64 6, .int .i64 7] 3)
theorem lit_d (W : World) : Ints (VD W) (some ⟨W.heap.size, 0, none⟩) 4 [5, 6, 7, 8] := lit_ints W [5, 6, 7, 8] (by decide) (by decide)
theorem lit_5 (W : World) : Ints (V5 W) (some ⟨W.heap.size, 0, none⟩) 4 [5, 6, 7, 5] := lit_ints W [5, 6, 7, 5] (by decide) (by decide)
theorem lit_7 (W : World) : Ints (V7 W) (some ⟨W.heap.size, 0, none⟩) 3 [5, 6, 7] := lit_ints W [5, 6, 7] (by decide) (by decide)
theorem lit_f (W : World) : CI lay (VF W) (some ⟨W.heap.size, 0, none⟩) 5 litF := lit_fates W litF 32 (by decide)
theorem run3 : (SrepMath.run [5, 6, 7, 8] 2 3 litF (st0 4 2)).g = [5, 6, 7, 5] := by decide
theorem run4 : (SrepMath.run [5, 6, 7, 8] 2 4 litF (st0 4 2)).g = [5, 6, 7] := by decide
theorem lit_run (q : Option Addr) (W : World) (R : Nat) (hR : R = 3 ∨ R = 4) (z : Int) (hz : z = (R : Int)) (G : List Int) (hG : (SrepMath.run [5, 6, 7, 8] 2 R litF (st0 4 2)).g = G) (hf : CI lay W q 5 litF) :
    Calls Try.prog 7 #[.slice (some ⟨W.heap.size, 0, none⟩) 4 4, .int .i64 2, .int .i64 z, .slice q 5 5] (VD W) fun e w' => ∃ v k, e = .returned (.tuple #[v, .int .i64 k, .nilIface]) ∧ OwnI w' (VD W).heap.size v G ∧ Below (VD W).heap.size (VD W) w' := by
  subst hz
  refine (run_good (some ⟨W.heap.size, 0, none⟩) q 4 5 4 5 2 R [5, 6, 7, 8] litF (VD W) rfl rfl (lit_d W) (hf.below (balloc (brefl _) _)) (by rcases hR with rfl | rfl <;> decide) _ rfl).mono ?_
  rintro e w' ⟨v, h1, h2, h3⟩
  exact ⟨v, _, h1, by rw [← hG]; exact h2, h3⟩
set_option maxHeartbeats 1000000 in
theorem fact_any (w : World) : Calls Try.prog 6 #[] w fun e w' => e = .returned (.bool true) ∧ Below w.heap.size w w' := by
  have s1 := fun (W : World) (q : Option Addr) (h : CI lay W q 5 litF) => lit_run q W 3 (.inl rfl) 3 rfl [5, 6, 7, 5] run3 h
  have s2 := fun (W : World) (q : Option Addr) (h : CI lay W q 5 litF) => lit_run q W 4 (.inr rfl) 4 rfl [5, 6, 7] run4 h
  have s3 := fun (W : World) p c (h : Ints W p c [5, 6, 7, 5]) => ints_any p (some ⟨W.heap.size, 0, none⟩) c 4 4 4 [5, 6, 7, 5] [5, 6, 7, 5] (V5 W) rfl rfl (h.below (balloc (brefl _) _)) (lit_5 W) true rfl
  have s4 := fun (W : World) p c (h : Ints W p c [5, 6, 7]) => ints_any p (some ⟨W.heap.size, 0, none⟩) c 3 3 3 [5, 6, 7] [5, 6, 7] (V7 W) rfl rfl (h.below (balloc (brefl _) _)) (lit_7 W) true rfl
  have S1 := Lib.hid s1
  have S2 := Lib.hid s2
  have S3 := Lib.hid s3
  have S4 := Lib.hid s4
  have LF := Lib.hid (lit_f w)
  unfold VD at S1
  unfold VD at S2
  unfold V5 at S3
  unfold V7 at S4
  unfold VF at LF
  clear s1 s2 s3 s4
  go_enter Try.func6, Try.ntmps6
  go_upto_region 2 with fail
  have hBf : Below w.heap.size w (w.alloc (.cells #[.bool false, .bool true, .bool false, .bool true, .bool false, .bool false, .bool false, .bool false, .bool false, .bool false] 32)) := balloc (brefl w) _
  generalize w.alloc (.cells #[.bool false, .bool true, .bool false, .bool true, .bool false, .bool false, .bool false, .bool false, .bool false, .bool false] 32) = wf at LF hBf ⊢
  go_wp2_with fail
  refine (S1.out _ _ LF.out).mono ?_; rintro e w1 ⟨v, k, rfl, ho, hb1⟩
  have hBf1 : Below wf.heap.size wf w1 := (balloc (brefl wf) _).trans (hb1.mono (by simp))
  have hB1 : Below w.heap.size w w1 := bcall hBf hBf1
  have LF1 := Lib.hid (LF.out.below hBf1)
  obtain ⟨p, cap, rfl, hi⟩ := ho.form
  have HI := Lib.hid (show Ints w1 p cap [5, 6, 7, 5] from hi)
  rw [show [(5 : Int), 6, 7, 5].length = 4 from rfl]
  clear ho hb1 hi LF hBf hBf1
  go_wp2_with fail
  refine (S2.out _ _ LF1.out).mono ?_; rintro e w2 ⟨v, k2, rfl, ho, hb2⟩
  have hB12 : Below w1.heap.size w1 w2 := (balloc (brefl w1) _).trans (hb2.mono (by simp))
  have hB2 := bcall hB1 hB12
  obtain ⟨p2, cap2, rfl, hi2⟩ := ho.form
  have HI1 := Lib.hid (HI.out.below hB12)
  have HI2 := Lib.hid (show Ints w2 p2 cap2 [5, 6, 7] from hi2)
  rw [show [(5 : Int), 6, 7].length = 3 from rfl]
  clear ho hb2 hi2 HI hB12
  go_wp2_with fail
  refine (S3.out _ _ _ HI1.out).mono ?_; rintro e w3 ⟨rfl, hb3⟩
  have hB23 : Below w2.heap.size w2 w3 := (balloc (brefl w2) _).trans (hb3.mono (by simp))
  have hB3 := bcall hB2 hB23
  have HI3 := Lib.hid (HI2.out.below hB23)
  clear hb3 HI2 hB23
  go_wp2_with fail
  refine (S4.out _ _ _ HI3.out).mono ?_; rintro e w4 ⟨rfl, hb4⟩
  have hB34 : Below w3.heap.size w3 w4 := (balloc (brefl w3) _).trans (hb4.mono (by simp))
  have hB4 := bcall hB3 hB34
  go_wp2_with fail
  go_ret
  exact ⟨rfl, hB4⟩
end Go.Proofs.Ythiebkkfgegebaa.Srep
