/- Slices of places, as they come in. No statement is proved here. -/
import Derived.Test.YtlojehakifagbaaPlace
namespace Go.Proofs.Ytlojehakifagbaa.Nat_
open Go.ChangeShapes Go.WideShapes Go.ChangeAt Go.RowKit Go.Proofs.Ytlojehakifagbaa.Kit Go.Proofs.Ytlojehakifagbaa.App Go.Proofs.Ytlojehakifagbaa.Cells
set_option linter.unusedVariables false
set_option maxRecDepth 20000

theorem ty : Ty lay 22 40 16 := ⟨Try.underlying22, by
  have h : (Try.prog.info? 40).map (fun i => (i.zero, i.size, i.bytes)) = some (some (.agg #[.int .i64 0, .int .i64 0]), 2, 16) := by kernel_rfl
  obtain ⟨i, hi, hz⟩ := Option.map_eq_some_iff.1 h
  simp only [Prod.mk.injEq] at hz
  exact ⟨i, _, hi, hz.1, hz.2.1, hz.2.2, rfl⟩, by decide⟩
theorem open_places {H : Type} {enc : TypeId × Value → H} {w : World} {r : Reach} {b0 : Nat} {v : Value} {d : DataW H} {ps : List MemPlace}
    (hval : Value.okWide Try.prog w r b0 22 v) (hd : DataW.Trod enc Try.prog w 0 (fun _ => true) true 22 v d ps) (hlt : ∀ x ∈ ps, x.block < w.heap.size) :
    ∃ p cap ls, v = .slice p ls.length cap ∧ CI lay w p cap ls ∧ (∀ x ∈ ls, Fits x) ∧ (ls.length = 0 ∨ ∃ es sp, d = .slice es sp ∧ es.length = ls.length) :=
  open_C Fits Try.underlying22 (by kernel_rfl) place_dec hval hd hlt
end Go.Proofs.Ytlojehakifagbaa.Nat_
