/- Contracts of what the laws of package cidr call besides. No statement is proved here. -/
import Derived.Test.YtfkfffcbhjmekaaCidrMany
namespace Go.Proofs.Ytfkfffcbhjmekaa.Cidr
open Go.ChangeShapes Go.WideShapes Go.ChangeAt Go.RowKit Go.Sort Go.Proofs.Ytfkfffcbhjmekaa.Kit Go.Proofs.Ytfkfffcbhjmekaa.App Go.Proofs.Ytfkfffcbhjmekaa.Cells Go.Proofs.Ytfkfffcbhjmekaa.CidrMath
set_option linter.unusedVariables false
set_option maxRecDepth 20000

theorem in_any (n a b : Int) (w : World) (R : Bool) (hR : R = (decide (a ≤ n) && decide (n ≤ b))) : Calls Try.prog 9 #[.int .i64 n, .int .i64 a, .int .i64 b] w fun e w' => e = .returned (.bool R) ∧ w' = w := by
  subst hR
  by_cases h1 : a ≤ n
  · have t1 : decide (a ≤ n) = true := decide_eq_true h1
    go_enter Try.func9, Try.ntmps9
    go_wp2_with fail
    go_ret
    exact ⟨by rw [t1]; simp, rfl⟩
  · have t1 : decide (a ≤ n) = false := decide_eq_false h1
    go_enter Try.func9, Try.ntmps9
    go_wp2_with fail
    go_ret
    exact ⟨rfl, rfl⟩
theorem in_iff (a b n : Int) (R : Bool) (h : R = true ↔ a ≤ n ∧ n ≤ b) : R = (decide (a ≤ n) && decide (n ≤ b)) := by
  rw [Bool.eq_iff_iff, h, Bool.and_eq_true, decide_eq_true_iff, decide_eq_true_iff]
theorem lit_prefixes (w : World) (l : List Pfx) (t : TypeId) (hm : l.length ≤ 700) : CI lay (w.alloc (.cells (lay.all l).toArray t)) (some ⟨w.heap.size, 0, none⟩) l.length l :=
  ⟨Nat.le_refl _, by unfold maxLen; omega, fun _ => ⟨w.heap.size, 0, rfl, by simp, fun j x hj i v hv => by
    have h1 : (w.alloc (.cells (lay.all l).toArray t)).heap[w.heap.size]? = some (.cells (lay.all l).toArray t) := alloc_new w _
    have hi : i < 2 := by
      rcases Nat.lt_or_ge i 2 with h | h
      · exact h
      · rw [List.getElem?_eq_none (by rw [lay.len]; exact h)] at hv; cases hv
    unfold World.cell?
    rw [h1]
    have hg := lay.all_get l j x hj i hi
    rw [hv] at hg
    simpa using hg⟩⟩
def lit2 : List Pfx := [⟨1, 16⟩, ⟨0, 16⟩]
def lit1 : List Pfx := [⟨0, 15⟩]
theorem few_lit2 : few0 lit2 = lit1 := by
  have e1 : (⟨1, 16⟩ : Pfx) = blk 1 0 := rfl
  have e2 : (⟨0, 16⟩ : Pfx) = blk 0 0 := rfl
  have e3 : (⟨0, 15⟩ : Pfx) = blk 0 1 := rfl
  refine few0_one lit2 ⟨0, 15⟩ (fun x hx => ?_) ?_ fun y => ?_
  · simp only [lit2, List.mem_cons, List.not_mem_nil, or_false] at hx
    rcases hx with rfl | rfl
    · exact (good_iff _).1 (by decide)
    · exact (good_iff _).1 (by decide)
  · exact (good_iff _).1 (by decide)
  · have h : lit2 = [blk 1 0] ++ [blk 0 0] := rfl
    rw [h, cov_append, cov_one, cov_one, e3, has_halves 0 0 y]
    exact Or.comm
theorem few_lit1 : few0 lit1 = lit1 := few0_one lit1 ⟨0, 15⟩ (fun x hx => by
    simp only [lit1, List.mem_cons, List.not_mem_nil, or_false] at hx
    rw [hx]; exact (good_iff _).1 (by decide)) ((good_iff _).1 (by decide)) fun y => cov_one _ _
set_option maxHeartbeats 1000000 in
theorem fact_any (w : World) : Calls Try.prog 7 #[] w fun e w' => e = .returned (.bool true) ∧ Below w.heap.size w w' := by
  have s1 := fun W : World => fewest_good (some ⟨W.heap.size, 0, none⟩) 2 2 lit2 _ rfl (lit_prefixes W lit2 32 (by decide)) (by decide)
  have s2 := fun (W : World) p c hc => many_good p c 1 lit1 W rfl hc (by decide)
  have s3 := fun (W W' : World) p c (hc : CI lay W' p c lit1) (hb : Below W'.heap.size W' W) => prefixes_any p (some ⟨W.heap.size, 0, none⟩) c 1 1 1 lit1 lit1 _ rfl rfl ((hc.below hb).below (balloc (brefl W) _)) (lit_prefixes W lit1 32 (by decide)) true (by simp)
  rw [few_lit2] at s1
  rw [few_lit1] at s2
  have ht : total lit1 = 2 := by decide
  rw [ht] at s2
  have hall : lay.all lit2 = [.int .i64 1, .int .i64 16, .int .i64 0, .int .i64 16] := rfl
  have hall1 : lay.all lit1 = [.int .i64 0, .int .i64 15] := rfl
  have hl1 : lit1.length = 1 := rfl
  rw [hall] at s1
  rw [hall1] at s3
  have S1 := Lib.hid s1
  have S2 := Lib.hid s2
  have S3 := Lib.hid s3
  clear s1 s2 s3 hall hall1 ht
  generalize lit1 = l1 at *
  have HL := Lib.hid hl1
  clear hl1
  go_enter Try.func7, Try.ntmps7
  go_wp2_with fail
  refine (S1.out _).mono ?_; rintro e w1 ⟨v, rfl, hown, hb1⟩
  have hB1 : Below w.heap.size w w1 := bcall (balloc (brefl w) _) hb1
  obtain ⟨p, c, rfl, hCI⟩ := hown.form
  rw [HL.out]
  have HC := Lib.hid hCI
  clear hown S1 hb1 hCI
  go_wp2_with fail
  refine (S2.out _ _ _ HC.out).mono ?_; rintro e w2 ⟨rfl, hb2⟩
  have hB2 := bcall hB1 hb2
  have HB := Lib.hid hb2
  clear S2 hb2
  go_wp2_with fail
  refine (S3.out _ _ _ _ HC.out HB.out).mono ?_; rintro e w3 ⟨rfl, m, rfl⟩
  go_wp2_with fail
  go_ret
  exact ⟨rfl, below_drewN (balloc hB2 _) m⟩
end Go.Proofs.Ytfkfffcbhjmekaa.Cidr
