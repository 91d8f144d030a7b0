/- Fragments: which may be; one in a block; one moved. No statement is proved here. -/
import Derived.Test.YtcleanjacijfoaaPartMath
namespace Go.Proofs.Ytcleanjacijfoaa.Part
open Go.ChangeShapes Go.WideShapes Go.ChangeAt Go.RowKit Go.Proofs.Ytcleanjacijfoaa.Kit Go.Proofs.Ytcleanjacijfoaa.App Go.Proofs.Ytcleanjacijfoaa.Cells
set_option linter.unusedVariables false
set_option maxRecDepth 20000

/-- May a part be? -/
def right (x : Prt) : Bool := decide (0 ≤ x.pos) && decide (x.pos ≤ 200) && decide ((x.dat.size : Int) ≤ 200 - x.pos)
/-- A part in a block. -/
def Box (w : World) (g : Nat) (x : Prt) : Prop := g < w.heap.size ∧ w.cell? ⟨g, 0, none⟩ = some (.int .i64 x.pos) ∧ w.cell? ⟨g, 1, none⟩ = some (.bool x.more) ∧ w.cell? ⟨g, 2, none⟩ = some (.string x.dat)
theorem Box.new (w : World) (x : Prt) (t : TypeId) : Box (w.alloc (.cells #[.int .i64 x.pos, .bool x.more, .string x.dat] t)) w.heap.size x := by
  have h : (w.alloc (.cells #[.int .i64 x.pos, .bool x.more, .string x.dat] t)).heap[w.heap.size]? = some (.cells #[.int .i64 x.pos, .bool x.more, .string x.dat] t) := alloc_new w _
  refine ⟨by simp, ?_, ?_, ?_⟩ <;> (unfold World.cell?; rw [h]; rfl)
theorem Box.below {w w' : World} {g B : Nat} {x : Prt} (h : Box w g x) (hb : Below B w w') (hg : g < B) : Box w' g x := by
  have hk : w'.heap[g]? = w.heap[g]? := hb.block g hg
  refine ⟨Nat.lt_of_lt_of_le h.1 hb.size, ?_, ?_, ?_⟩
  · exact (World.cell?_of_block (w := w) (a := ⟨g, 0, none⟩) hk).trans h.2.1
  · exact (World.cell?_of_block (w := w) (a := ⟨g, 1, none⟩) hk).trans h.2.2.1
  · exact (World.cell?_of_block (w := w) (a := ⟨g, 2, none⟩) hk).trans h.2.2.2

/-- What is made of the parts of a part's bytes. -/
def moved (x y : Prt) : Prt := ⟨x.pos + y.pos, x.more || y.more, y.dat⟩

theorem Box.more {w w' : World} {g b : Nat} {x : Prt} (h : Box w g x) (hg : w.grownBy w' (some b)) (hne : g ≠ b) : Box w' g x := by
  have hk : w'.heap[g]? = w.heap[g]? := hg.block g h.1 (by simpa using hne)
  refine ⟨Nat.lt_of_lt_of_le h.1 hg.size, ?_, ?_, ?_⟩
  · exact (World.cell?_of_block (w := w) (a := ⟨g, 0, none⟩) hk).trans h.2.1
  · exact (World.cell?_of_block (w := w) (a := ⟨g, 1, none⟩) hk).trans h.2.2.1
  · exact (World.cell?_of_block (w := w) (a := ⟨g, 2, none⟩) hk).trans h.2.2.2
end Go.Proofs.Ytcleanjacijfoaa.Part
