/- The array of a table, sliced. No statement is proved here. -/
import Derived.Test.YtlojehakifagbaaLpm1
namespace Go.Proofs.Ytlojehakifagbaa.Lpm
open Go.ChangeShapes Go.WideShapes Go.ChangeAt Go.RowKit Go.Sort Go.Proofs.Ytlojehakifagbaa.Kit Go.Proofs.Ytlojehakifagbaa.App Go.Proofs.Ytlojehakifagbaa.Cells Go.Proofs.Ytlojehakifagbaa.Cidr Go.Proofs.Ytlojehakifagbaa.CidrMath Go.Proofs.Ytlojehakifagbaa.RouteMath Go.Proofs.Ytlojehakifagbaa.Route
set_option linter.unusedVariables false
set_option maxRecDepth 20000

theorem arr32 : Try.prog.underlying 59 = some (.array (Try.prog.arrayLen 59) (Try.prog.elem 59)) := by kernel_rfl
theorem len32 : Try.prog.arrayLen 59 = 32 := by kernel_rfl
theorem size3a (W : World) : (sizeOf (Try.prog.elem 59)).run Try.prog W = .ok 3 W := by
  have h : (Try.prog.info? (Try.prog.elem 59)).map (fun i => i.size) = some 3 := by kernel_rfl
  obtain ⟨i, hi, hz⟩ := Option.map_eq_some_iff.1 h
  simp only [sizeOf, typeInfo, Sem.run_bind, run_program, Result.andThen_ok, hi, hz, Sem.run_pure]
theorem arr_h (g n : Nat) (h : n ≤ 32) (W : World) : (Instr.sliceAt 59 (.pointer (some ⟨g, 0, none⟩)) none (some (.int .i64 (n : Int))) none).run Try.prog W = .ok (.slice (some ⟨g, 0, none⟩) n 32) W := by
  rw [run_sliceAt_array_h W _ _ arr32 .i64 (n : Int) (by omega) (by rw [len32]; omega), size3a]
  simp only [Result.andThen_ok, slicedAt, len32, Int.toNat_natCast]
  simp [Addr.add]
theorem arr_lh (g an m : Nat) (h : an + m ≤ 32) (y z : Int) (hy : y = (an : Int)) (hz : z = (an : Int) + (m : Int)) : ∃ p c, (∀ W, (Instr.sliceAt 59 (.pointer (some ⟨g, 0, none⟩)) (some (.int .i64 y)) (some (.int .i64 z)) none).run Try.prog W = .ok (.slice (some p) m c) W) ∧ (0 < m → p = ⟨g, an * 3, none⟩) := by
  subst hz
  subst hy
  refine ⟨(if 32 = an then ⟨g, 0, none⟩ else ⟨g, an * 3, none⟩), 32 - an, fun W => ?_, fun hm => by rw [if_neg (by omega)]⟩
  rw [run_sliceAt_array_lh W _ _ arr32 .i64 .i64 (an : Int) ((an : Int) + (m : Int)) (by omega) (by omega) (by rw [len32]; omega), size3a]
  simp only [Result.andThen_ok, slicedAt, len32, Int.toNat_natCast]
  rw [show ((an : Int) + (m : Int)).toNat = an + m by omega, show an + m - an = m by omega]
  congr 4
  simp [Addr.add]
  omega
theorem arr_l (g n : Nat) (h : n ≤ 32) (y : Int) (hy : y = (n : Int)) : ∃ p c, (∀ W, (Instr.sliceAt 59 (.pointer (some ⟨g, 0, none⟩)) (some (.int .i64 y)) none none).run Try.prog W = .ok (.slice (some p) (32 - n) c) W) ∧ (0 < 32 - n → p = ⟨g, n * 3, none⟩) := by
  subst hy
  refine ⟨(if 32 = n then ⟨g, 0, none⟩ else ⟨g, n * 3, none⟩), 32 - n, fun W => ?_, fun hm => by rw [if_neg (by omega)]⟩
  rw [run_sliceAt_array_l W _ _ arr32 .i64 (n : Int) (by omega) (by rw [len32]; omega), size3a]
  simp only [Result.andThen_ok, slicedAt, len32, Int.toNat_natCast]
  congr 4
  simp [Addr.add]
  omega
theorem Tab.ci {w : World} {g : Nat} {l : List Rt} (h : Tab w g l) : CI layR w (some ⟨g, 0, none⟩) 32 l :=
  ⟨h.len, by unfold maxLen; omega, fun _ => ⟨g, 0, rfl, h.lt, fun j x hj i v hv => by rw [Nat.zero_add]; exact h.cell hj hv⟩⟩
end Go.Proofs.Ytlojehakifagbaa.Lpm
