/- Frames of streams: how they lie in memory, as they come in. No statement is proved here. -/
import Derived.Test.YtcleanjacijfoaaSub
import Derived.Test.YtcleanjacijfoaaCells
import Derived.ChangeMaps5
import Derived.BigQuiet
import Derived.RegionTactic
namespace Go.Proofs.Ytcleanjacijfoaa.Mux
open Go.ChangeShapes Go.WideShapes Go.ChangeAt Go.RowKit Go.Proofs.Ytcleanjacijfoaa.Kit Go.Proofs.Ytcleanjacijfoaa.App Go.Proofs.Ytcleanjacijfoaa.Cells
set_option linter.unusedVariables false
set_option maxRecDepth 20000

/-- A frame: its stream, where it stands, its bytes. -/
structure Frm where
  st : Int
  pos : Int
  dat : ByteArray
def cells (x : Frm) : List Value := [.int .i64 x.st, .int .i64 x.pos, .string x.dat]
def val (x : Frm) : Value := .agg #[.int .i64 x.st, .int .i64 x.pos, .string x.dat]
def lay : Lay Frm := ⟨cells, 3, by decide, fun _ => rfl, fun x v hv => by
  simp only [cells, List.mem_cons, List.not_mem_nil, or_false] at hv
  rcases hv with rfl | rfl | rfl <;> rfl⟩
theorem ty : Ty lay 37 31 32 := ⟨Try.underlying37, by
  have h : (Try.prog.info? 31).map (fun i => (i.zero, i.size, i.bytes)) = some (some (.agg #[.int .i64 0, .int .i64 0, .string .empty]), 3, 32) := by kernel_rfl
  obtain ⟨i, hi, hz⟩ := Option.map_eq_some_iff.1 h
  simp only [Prod.mk.injEq] at hz
  exact ⟨i, _, hi, hz.1, hz.2.1, hz.2.2, rfl⟩, by decide⟩

/-- What may come in as a frame. -/
def Fits (x : Frm) : Prop := (Lit.int .i64 x.st).wf = true ∧ (Lit.int .i64 x.pos).wf = true ∧ x.dat.size ≤ maxLen
theorem frame_dec {H : Type} {enc : TypeId × Value → H} {w : World} (fuel : Nat) (cs : List Value) (y : DataW H × List MemPlace) (h : DataW.trod enc Try.prog w 0 (fun _ => true) true fuel 31 cs = some y) : ∃ x : Frm, cs = lay.enc x ∧ Fits x := by
  obtain ⟨xs, n, rfl, hx, hl, hxl, hall⟩ := DataW.trod_struct Try.underlying31 h
  have hc : Try.prog.cellsOf 31 = 3 := by kernel_rfl
  have ci : Try.prog.cellsOf 3 = 1 := by kernel_rfl
  have cs1 : Try.prog.cellsOf 9 = 1 := by kernel_rfl
  rw [hc] at hl
  have h3 : xs.length = 3 := hxl
  obtain ⟨x0, x1, x2, rfl⟩ : ∃ x0 x1 x2, xs = [x0, x1, x2] := by
    match xs, h3 with
    | [x0, x1, x2], _ => exact ⟨x0, x1, x2, rfl⟩
  have f0 := hall 0 _ rfl
  have f1 := hall 1 _ rfl
  have f2 := hall 2 _ rfl
  change DataW.trod _ _ _ _ _ _ _ 3 ((cs.drop 0).take (Try.prog.cellsOf 3)) = some x0 at f0
  change DataW.trod _ _ _ _ _ _ _ 3 ((cs.drop 1).take (Try.prog.cellsOf 3)) = some x1 at f1
  change DataW.trod _ _ _ _ _ _ _ 9 ((cs.drop 2).take (Try.prog.cellsOf 9)) = some x2 at f2
  rw [ci] at f0
  rw [ci] at f1
  rw [cs1] at f2
  obtain ⟨a, e0, _, ha⟩ := DataW.trod_int Try.underlying3 f0
  obtain ⟨b, e1, _, hb⟩ := DataW.trod_int Try.underlying3 f1
  obtain ⟨s, e2, _, hs⟩ := DataW.trod_string Try.underlying9 f2
  refine ⟨⟨a, b, s⟩, ?_, ha, hb, hs⟩
  match cs, hl with
  | [c0, c1, c2], _ =>
    simp at e0 e1 e2
    subst e0; subst e1; subst e2
    rfl
theorem open_frames {H : Type} {enc : TypeId × Value → H} {w : World} {r : Reach} {b0 : Nat} {v : Value} {d : DataW H} {ps : List MemPlace}
    (hval : Value.okWide Try.prog w r b0 37 v) (hd : DataW.Trod enc Try.prog w 0 (fun _ => true) true 37 v d ps) (hlt : ∀ x ∈ ps, x.block < w.heap.size) :
    ∃ p cap ls, v = .slice p ls.length cap ∧ CI lay w p cap ls ∧ (∀ x ∈ ls, Fits x) ∧ (ls.length = 0 ∨ ∃ es sp, d = .slice es sp ∧ es.length = ls.length) :=
  open_C Fits Try.underlying37 (by kernel_rfl) frame_dec hval hd hlt
theorem open_frame {H : Type} {enc : TypeId × Value → H} {w : World} {r : Reach} {b0 : Nat} {v : Value} {d : DataW H} {ps : List MemPlace}
    (hval : Value.okWide Try.prog w r b0 31 v) (hd : DataW.Trod enc Try.prog w 0 (fun _ => true) true 31 v d ps) : ∃ x : Frm, v = val x ∧ Fits x := by
  obtain ⟨fuel, hf⟩ := hd
  obtain ⟨x, hx, hF⟩ := frame_dec fuel v.cells.toList (d, ps) hf
  obtain ⟨cs, rfl, _⟩ := okWide_struct Try.underlying31 hval
  refine ⟨x, ?_, hF⟩
  have h1 : cs.toList = lay.enc x := hx
  have : cs = #[.int .i64 x.st, .int .i64 x.pos, .string x.dat] := Array.toList_inj.1 h1
  subst this
  rfl
/-- A frame in a block. -/
def Box (w : World) (g : Nat) (x : Frm) : Prop := g < w.heap.size ∧ w.cell? ⟨g, 0, none⟩ = some (.int .i64 x.st) ∧ w.cell? ⟨g, 1, none⟩ = some (.int .i64 x.pos) ∧ w.cell? ⟨g, 2, none⟩ = some (.string x.dat)
theorem Box.new (w : World) (x : Frm) (t : TypeId) : Box (w.alloc (.cells #[.int .i64 x.st, .int .i64 x.pos, .string x.dat] t)) w.heap.size x := by
  have h : (w.alloc (.cells #[.int .i64 x.st, .int .i64 x.pos, .string x.dat] t)).heap[w.heap.size]? = some (.cells #[.int .i64 x.st, .int .i64 x.pos, .string x.dat] t) := alloc_new w _
  refine ⟨by simp, ?_, ?_, ?_⟩ <;> (unfold World.cell?; rw [h]; rfl)
theorem Box.below {w w' : World} {g B : Nat} {x : Frm} (h : Box w g x) (hb : Below B w w') (hg : g < B) : Box w' g x := by
  have hk : w'.heap[g]? = w.heap[g]? := hb.block g hg
  refine ⟨Nat.lt_of_lt_of_le h.1 hb.size, ?_, ?_, ?_⟩
  · exact (World.cell?_of_block (w := w) (a := ⟨g, 0, none⟩) hk).trans h.2.1
  · exact (World.cell?_of_block (w := w) (a := ⟨g, 1, none⟩) hk).trans h.2.2.1
  · exact (World.cell?_of_block (w := w) (a := ⟨g, 2, none⟩) hk).trans h.2.2.2

theorem Box.more {w w' : World} {g b : Nat} {x : Frm} (h : Box w g x) (hg : w.grownBy w' (some b)) (hne : g ≠ b) : Box w' g x := by
  have hk : w'.heap[g]? = w.heap[g]? := hg.block g h.1 (by simpa using hne)
  refine ⟨Nat.lt_of_lt_of_le h.1 hg.size, ?_, ?_, ?_⟩
  · exact (World.cell?_of_block (w := w) (a := ⟨g, 0, none⟩) hk).trans h.2.1
  · exact (World.cell?_of_block (w := w) (a := ⟨g, 1, none⟩) hk).trans h.2.2.1
  · exact (World.cell?_of_block (w := w) (a := ⟨g, 2, none⟩) hk).trans h.2.2.2
end Go.Proofs.Ytcleanjacijfoaa.Mux
