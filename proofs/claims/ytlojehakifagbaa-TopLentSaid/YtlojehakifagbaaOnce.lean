/- A drawn region whose orders all have one end: what stands behind it is walked once. No statement is proved here. -/
import Derived.Test.YtlojehakifagbaaBase
namespace Go.Proofs.Ytlojehakifagbaa.App
open Go.ChangeShapes Go.WideShapes Go.ChangeAt Go.RowKit
theorem region_once {P : Program} {c : Code} {Q : Exit → Act → World → Prop} {a : Act} {w : World} (h : ∃ A W, c.wp P (fun e a' w' => e = Exit.normal ∧ a' = A ∧ w' = W) a w ∧ Q .normal A W) : c.wp P Q a w := by
  obtain ⟨A, W, h1, h2⟩ := h
  exact Code.wp_mono (fun e a w ⟨e1, e2, e3⟩ => by rw [e1, e2, e3]; exact h2) h1
end Go.Proofs.Ytlojehakifagbaa.App
