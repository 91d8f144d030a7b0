/- What the law CidrHalves wants of numbers. No statement is proved here. -/
import Derived.Test.YtfkfffcbhjmekaaCidrLaw
import Derived.Test.YtfkfffcbhjmekaaCidrRef1
import Derived.Deep.RegionHeld3
namespace Go.Proofs.Ytfkfffcbhjmekaa.cidrHalvesP
open Go.ChangeShapes Go.WideShapes Go.ChangeAt Go.RowKit Go.Sort
open Go.Proofs.Ytfkfffcbhjmekaa.Kit Go.Proofs.Ytfkfffcbhjmekaa.App Go.Proofs.Ytfkfffcbhjmekaa.Cells Go.Proofs.Ytfkfffcbhjmekaa.Cidr Go.Proofs.Ytfkfffcbhjmekaa.CidrMath
set_option linter.unusedVariables false
set_option maxRecDepth 20000

theorem half_good (d i : Nat) (hi : i ≤ 15) (hb : d * 2 ^ (i + 1) + 2 ^ (i + 1) ≤ 65536) : CidrMath.Good (blk (d * 2 ^ (i + 1)) i) ∧ CidrMath.Good (blk (d * 2 ^ (i + 1) + 2 ^ i) i) ∧ CidrMath.Good (blk (d * 2 ^ (i + 1)) (i + 1)) := by
  have hp := pow_pos' i
  have h2 := two_pow i
  obtain ⟨e1, e2⟩ := CidrMath.half_start d i
  refine ⟨⟨2 * d, i, by omega, by rw [e1], by rw [← e1]; omega⟩, ⟨2 * d + 1, i, by omega, by rw [e2], by rw [← e2]; omega⟩, ⟨d, i + 1, by omega, rfl, by omega⟩⟩
theorem half_few (d i : Nat) (hi : i ≤ 15) (hb : d * 2 ^ (i + 1) + 2 ^ (i + 1) ≤ 65536) : few0 [blk (d * 2 ^ (i + 1) + 2 ^ i) i, blk (d * 2 ^ (i + 1)) i] = [blk (d * 2 ^ (i + 1)) (i + 1)] ∧ wrong [blk (d * 2 ^ (i + 1) + 2 ^ i) i, blk (d * 2 ^ (i + 1)) i] = 0 := by
  obtain ⟨g1, g2, g3⟩ := half_good d i hi hb
  have hg : ∀ x ∈ [blk (d * 2 ^ (i + 1) + 2 ^ i) i, blk (d * 2 ^ (i + 1)) i], CidrMath.Good x := fun x hx => by
    simp only [List.mem_cons, List.not_mem_nil, or_false] at hx
    rcases hx with rfl | rfl
    · exact g2
    · exact g1
  refine ⟨few0_one _ _ hg g3 fun y => ?_, (wrong_zero _).2 ⟨by simp, hg⟩⟩
  have h : [blk (d * 2 ^ (i + 1) + 2 ^ i) i, blk (d * 2 ^ (i + 1)) i] = [blk (d * 2 ^ (i + 1) + 2 ^ i) i] ++ [blk (d * 2 ^ (i + 1)) i] := rfl
  rw [h, cov_append, cov_one, cov_one, has_halves]
  exact Or.comm
/-- A piece of code that ends in one way: what stands behind it is shown once. -/
theorem wp_once {P : Program} {c : Code} {Q : Exit → Act → World → Prop} {a : Act} {w : World} (h : ∃ A W, c.wp P (fun e a' w' => e = Exit.normal ∧ a' = A ∧ w' = W) a w ∧ Q .normal A W) : c.wp P Q a w := by
  obtain ⟨A, W, h1, h2⟩ := h
  exact Code.wp_mono (fun e a w ⟨e1, e2, e3⟩ => by rw [e1, e2, e3]; exact h2) h1
/-- What a prefix must be for its halves to be asked for. -/
def Asked (x : Pfx) : Prop := code x = 0 ∧ x.len ≤ 15
theorem asked_form {x : Pfx} (h : Asked x) : ∃ d i : Nat, i ≤ 15 ∧ d * 2 ^ (i + 1) + 2 ^ (i + 1) ≤ 65536 ∧ x = blk (d * 2 ^ (i + 1)) (i + 1) := by
  obtain ⟨h1, h2⟩ := h
  obtain ⟨d, j, hj, rfl, hb⟩ := good_mem ((good_iff x).1 h1)
  have h2' : (16 : Int) - (j : Int) ≤ 15 := h2
  obtain ⟨i, rfl⟩ : ∃ i, j = i + 1 := ⟨j - 1, by omega⟩
  exact ⟨d, i, by omega, hb, rfl⟩
theorem size_any' (k : Nat) (hk : k ≤ 16) (w : World) (z : Int) (hz : z = (k : Int)) (R : Nat) (hR : R = 2 ^ k) : Calls Try.prog 13 #[.int .i64 z] w fun e w' => e = .returned (.int .i64 R) ∧ w' = w := by
  subst hz
  exact (rpower k (k : Int) rfl (by omega) w R hR).mono fun e w' ⟨h1, h2⟩ => ⟨h1, h2.symm⟩
abbrev Law (x : Pfx) (p : Option Addr) (cap : Nat) (l : List Pfx) (w : World) : Prop := Calls Try.prog 5 #[.agg #[.int .i64 x.adr, .int .i64 x.len], .slice p l.length cap] w fun e w' => e = .returned (.bool true) ∧ Below w.heap.size w w'
end Go.Proofs.Ytfkfffcbhjmekaa.cidrHalvesP
