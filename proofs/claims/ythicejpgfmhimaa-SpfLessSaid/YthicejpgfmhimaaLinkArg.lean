/- A link as an argument. No statement is proved here. -/
import Derived.Test.YthicejpgfmhimaaLink
namespace Go.Proofs.Ythicejpgfmhimaa.Vector
open Go.ChangeShapes Go.WideShapes Go.ChangeAt Go.RowKit Go.Proofs.Ythicejpgfmhimaa.Kit Go.Proofs.Ythicejpgfmhimaa.App Go.Proofs.Ythicejpgfmhimaa.Cells
set_option linter.unusedVariables false

theorem open_link {H : Type} {enc : TypeId × Value → H} {w : World} {r : Reach} {b0 : Nat} {v : Value} {d : DataW H} {ps : List MemPlace}
    (hval : Value.okWide Try.prog w r b0 41 v) (hd : DataW.Trod enc Try.prog w 0 (fun _ => true) true 41 v d ps) : ∃ x : Lk, v = .agg #[.int .i64 x.a, .int .i64 x.b, .int .i64 x.c] := by
  obtain ⟨fuel, hf⟩ := hd
  obtain ⟨x, hx, _⟩ := link_dec fuel v.cells.toList (d, ps) hf
  obtain ⟨cs, rfl, _⟩ := okWide_struct Try.underlying41 hval
  refine ⟨x, ?_⟩
  have h1 : cs.toList = layL.enc x := hx
  have : cs = #[.int .i64 x.a, .int .i64 x.b, .int .i64 x.c] := Array.toList_inj.1 h1
  rw [this]
end Go.Proofs.Ythicejpgfmhimaa.Vector
