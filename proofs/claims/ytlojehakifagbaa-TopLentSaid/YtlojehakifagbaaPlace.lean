/- Places (an address and a port): how they lie in memory, as they come in, compared. No statement is proved here. -/
import Derived.Test.YtlojehakifagbaaCells
import Derived.ChangeMaps5
import Derived.BigQuiet
import Derived.RegionTactic
import Derived.Laws.StructEq
import Derived.Shelf.RegionOpenPlain
namespace Go.Proofs.Ytlojehakifagbaa.Nat_
open Go.ChangeShapes Go.WideShapes Go.ChangeAt Go.RowKit Go.Proofs.Ytlojehakifagbaa.Kit Go.Proofs.Ytlojehakifagbaa.App Go.Proofs.Ytlojehakifagbaa.Cells
set_option linter.unusedVariables false
set_option maxRecDepth 20000

structure Plc where
  adr : Int
  prt : Int
  deriving DecidableEq
def val (x : Plc) : Value := .agg #[.int .i64 x.adr, .int .i64 x.prt]
def lay : Lay Plc := ⟨fun x => [.int .i64 x.adr, .int .i64 x.prt], 2, by decide, fun _ => rfl, fun x v hv => by
  simp only [List.mem_cons, List.not_mem_nil, or_false] at hv
  rcases hv with rfl | rfl <;> rfl⟩
/-- What may come in as a place. -/
def Fits (x : Plc) : Prop := (Lit.int .i64 x.adr).wf = true ∧ (Lit.int .i64 x.prt).wf = true
theorem place_dec {H : Type} {enc : TypeId × Value → H} {w : World} (fuel : Nat) (cs : List Value) (y : DataW H × List MemPlace) (h : DataW.trod enc Try.prog w 0 (fun _ => true) true fuel 40 cs = some y) : ∃ x : Plc, cs = lay.enc x ∧ Fits x := by
  obtain ⟨xs, n, rfl, hx, hl, hxl, hall⟩ := DataW.trod_struct Try.underlying40 h
  have hc : Try.prog.cellsOf 40 = 2 := by kernel_rfl
  have ci : Try.prog.cellsOf 3 = 1 := by kernel_rfl
  rw [hc] at hl
  have h3 : xs.length = 2 := hxl
  obtain ⟨x0, x1, rfl⟩ : ∃ x0 x1, xs = [x0, x1] := by
    match xs, h3 with
    | [x0, x1], _ => exact ⟨x0, x1, rfl⟩
  have f0 := hall 0 _ rfl
  have f1 := hall 1 _ rfl
  change DataW.trod _ _ _ _ _ _ _ 3 ((cs.drop 0).take (Try.prog.cellsOf 3)) = some x0 at f0
  change DataW.trod _ _ _ _ _ _ _ 3 ((cs.drop 1).take (Try.prog.cellsOf 3)) = some x1 at f1
  rw [ci] at f0 f1
  obtain ⟨a, e0, _, ha⟩ := DataW.trod_int Try.underlying3 f0
  obtain ⟨b, e1, _, hb⟩ := DataW.trod_int Try.underlying3 f1
  refine ⟨⟨a, b⟩, ?_, ha, hb⟩
  match cs, hl with
  | [c0, c1], _ =>
    simp at e0 e1
    subst e0; subst e1
    rfl
theorem open_place {H : Type} {enc : TypeId × Value → H} {w : World} {r : Reach} {b0 : Nat} {v : Value} {d : DataW H} {ps : List MemPlace}
    (hval : Value.okWide Try.prog w r b0 40 v) (hd : DataW.Trod enc Try.prog w 0 (fun _ => true) true 40 v d ps) : ∃ x : Plc, v = val x ∧ Fits x := by
  obtain ⟨fuel, hf⟩ := hd
  obtain ⟨x, hx, hF⟩ := place_dec fuel v.cells.toList (d, ps) hf
  obtain ⟨cs, rfl, _⟩ := okWide_struct Try.underlying40 hval
  refine ⟨x, ?_, hF⟩
  have h1 : cs.toList = lay.enc x := hx
  have : cs = #[.int .i64 x.adr, .int .i64 x.prt] := Array.toList_inj.1 h1
  subst this
  rfl
/-- A literal of structs is the call's own. -/
theorem oc_lit_pl {τ : Type} (L : Lay τ) (e : TypeId) (w : World) (ls : List τ) (hm : ls.length ≤ 700) : OC L e (w.alloc (.cells (L.all ls).toArray e)) w.heap.size (.slice (some ⟨w.heap.size, 0, none⟩) ls.length ls.length) ls :=
  ⟨L.all_len ls, .inr ⟨w.heap.size, ls.length, (L.all ls).toArray, rfl, Nat.le_refl _, alloc_new w _, Nat.le_refl _, by unfold maxLen; omega, by simp [L.all_len], by rw [List.take_of_length_le (by simp [L.all_len])]⟩⟩
/-- A place in a block. -/
def Box (w : World) (g : Nat) (x : Plc) : Prop := g < w.heap.size ∧ w.cell? ⟨g, 0, none⟩ = some (.int .i64 x.adr) ∧ w.cell? ⟨g, 1, none⟩ = some (.int .i64 x.prt)
theorem Box.new (w : World) (x : Plc) (t : TypeId) : Box (w.alloc (.cells #[.int .i64 x.adr, .int .i64 x.prt] t)) w.heap.size x := by
  have h : (w.alloc (.cells #[.int .i64 x.adr, .int .i64 x.prt] t)).heap[w.heap.size]? = some (.cells #[.int .i64 x.adr, .int .i64 x.prt] t) := alloc_new w _
  refine ⟨by simp, ?_, ?_⟩ <;> (unfold World.cell?; rw [h]; rfl)
theorem Box.below {w w' : World} {g B : Nat} {x : Plc} (h : Box w g x) (hb : Below B w w') (hg : g < B) : Box w' g x := by
  have hk : w'.heap[g]? = w.heap[g]? := hb.block g hg
  refine ⟨Nat.lt_of_lt_of_le h.1 hb.size, ?_, ?_⟩
  · exact (World.cell?_of_block (w := w) (a := ⟨g, 0, none⟩) hk).trans h.2.1
  · exact (World.cell?_of_block (w := w) (a := ⟨g, 1, none⟩) hk).trans h.2.2
theorem Box.more {w w' : World} {g b : Nat} {x : Plc} (h : Box w g x) (hg : w.grownBy w' (some b)) (hne : g ≠ b) : Box w' g x := by
  have hk : w'.heap[g]? = w.heap[g]? := hg.block g h.1 (by simpa using hne)
  refine ⟨Nat.lt_of_lt_of_le h.1 hg.size, ?_, ?_⟩
  · exact (World.cell?_of_block (w := w) (a := ⟨g, 0, none⟩) hk).trans h.2.1
  · exact (World.cell?_of_block (w := w) (a := ⟨g, 1, none⟩) hk).trans h.2.2
theorem Box.alloc {w : World} {g : Nat} {x : Plc} (h : Box w g x) (o : Obj) : Box (w.alloc o) g x := by
  have hk : (w.alloc o).heap[g]? = w.heap[g]? := (World.grownBy_alloc w o none).block g h.1 (by simp)
  exact ⟨Nat.lt_of_lt_of_le h.1 (by simp), (World.cell?_of_block (w := w) (a := ⟨g, 0, none⟩) hk).trans h.2.1, (World.cell?_of_block (w := w) (a := ⟨g, 1, none⟩) hk).trans h.2.2⟩
theorem Box.drewN {w : World} {g : Nat} {x : Plc} (h : Box w g x) (n : Nat) : Box (w.drewN n) g x := h
/-- Two placees compared. -/
theorem eqX (a1 a2 b1 b2 : Int) (W : World) :
    (Op.equalIn 10000 40 (.agg #[.int .i64 a1, .int .i64 a2]) (.agg #[.int .i64 b1, .int .i64 b2])).run Try.prog W = .ok (a1 == b1 && a2 == b2) W := by
  have hS : Try.prog.underlying 40 = some (.struct (Try.prog.fieldsOf 40)) := by kernel_rfl
  have hp : Try.prog.stoodInHeld 40 = false := by kernel_rfl
  rw [show (10000 : Nat) = 9999 + 1 from rfl, run_equalIn_agg W 9999 40 _ _ hS hp]
  simp only [Program.fieldsOf, Try.underlying40]
  go_simp
  cases h1 : (a1 == b1) <;> cases h2 : (a2 == b2) <;> simp_all
end Go.Proofs.Ytlojehakifagbaa.Nat_
