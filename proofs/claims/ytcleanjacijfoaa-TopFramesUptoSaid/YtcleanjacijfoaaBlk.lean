/- A block of cells that is written in place: a struct behind a pointer, or a boxed struct. No statement is proved here. -/
import Derived.Test.YtcleanjacijfoaaBase
namespace Go.Proofs.Ytcleanjacijfoaa.App
open Go.ChangeShapes Go.WideShapes Go.ChangeAt Go.RowKit Go.Proofs.Ytcleanjacijfoaa.Kit
set_option linter.unusedVariables false
set_option maxRecDepth 20000

/-- Block g holds the values l. -/
def Blk (T : TypeId) (w : World) (g : Nat) (l : List Value) : Prop := w.heap[g]? = some (.cells l.toArray T)
variable {T : TypeId} {w w' : World} {g : Nat} {l : List Value}
theorem Blk.cell (h : Blk T w g l) (k : Nat) (v : Value) (hk : l[k]? = some v) : w.cell? ⟨g, k, none⟩ = some v := by
  unfold Blk at h
  unfold World.cell?
  rw [h]
  simp [hk]
theorem Blk.fz (h : Blk T w g l) (k : Nat) : w.frozen? ⟨g, k, none⟩ = false := by
  unfold Blk at h
  unfold World.frozen?
  rw [h]
  simp
theorem Blk.lt (h : Blk T w g l) : g < w.heap.size := (Array.getElem?_eq_some_iff.1 h).1
theorem Blk.more {row : Option Nat} (h : Blk T w g l) (hg : w.grownBy w' row) (hne : some g ≠ row) : Blk T w' g l := (hg.block g h.lt hne).trans h
theorem Blk.below (h : Blk T w g l) (hb : Below w.heap.size w w') : Blk T w' g l := (hb.block g h.lt).trans h
theorem Blk.alloc (h : Blk T w g l) (o : Obj) : Blk T (w.alloc o) g l := h.more (World.grownBy_alloc w o none) (by simp)
theorem Blk.drewN (h : Blk T w g l) (n : Nat) : Blk T (w.drewN n) g l := h
theorem Blk.drew (h : Blk T w g l) : Blk T w.drew g l := h
theorem Blk.set (h : Blk T w g l) (k : Nat) (v : Value) : Blk T (w.setCell ⟨g, k, none⟩ v) g (l.set k v) := by
  unfold Blk at h ⊢
  simp [World.setCell, Array.getElem?_modify, h]
theorem Blk.other (h : Blk T w g l) (b k : Nat) (v : Value) (hne : g ≠ b) : Blk T (w.setCell ⟨b, k, none⟩ v) g l := by
  unfold Blk at h ⊢
  simp only [World.setCell, Array.getElem?_modify]
  rw [if_neg (fun e => hne e.symm)]
  exact h
theorem Blk.new (w : World) (T : TypeId) (l : List Value) : Blk T (w.alloc (.cells l.toArray T)) w.heap.size l := alloc_new w _
theorem below_set {B : Nat} {a w : World} (h : Below B a w) (g k : Nat) (v : Value) (hB : B ≤ g) : Below B a (w.setCell ⟨g, k, none⟩ v) := by
  refine ⟨h.os, h.tape, h.output, by simp [World.setCell]; exact h.size, fun j hj => ?_⟩
  rw [← h.block j hj]
  simp only [World.setCell, Array.getElem?_modify]
  rw [if_neg (by omega)]
end Go.Proofs.Ytcleanjacijfoaa.App
