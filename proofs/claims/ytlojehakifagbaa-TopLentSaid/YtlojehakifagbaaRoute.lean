/- Routes: how they lie in memory, as they come in. No statement is proved here. -/
import Derived.Test.YtlojehakifagbaaPfx0
import Derived.Test.YtlojehakifagbaaRouteMath
namespace Go.Proofs.Ytlojehakifagbaa.Route
open Go.ChangeShapes Go.WideShapes Go.ChangeAt Go.RowKit Go.Proofs.Ytlojehakifagbaa.Kit Go.Proofs.Ytlojehakifagbaa.App Go.Proofs.Ytlojehakifagbaa.Cells Go.Proofs.Ytlojehakifagbaa.CidrMath Go.Proofs.Ytlojehakifagbaa.RouteMath
set_option linter.unusedVariables false
set_option maxRecDepth 20000

def val (x : Rt) : Value := .agg #[.int .i64 x.adr, .int .i64 x.len, .int .i64 x.hop]
def layR : Lay Rt := ⟨fun x => [.int .i64 x.adr, .int .i64 x.len, .int .i64 x.hop], 3, by decide, fun _ => rfl, fun x v hv => by
  simp only [List.mem_cons, List.not_mem_nil, or_false] at hv
  rcases hv with rfl | rfl | rfl <;> rfl⟩
theorem tyR : Ty layR 44 36 24 := ⟨Try.underlying44, by
  have h : (Try.prog.info? 36).map (fun i => (i.zero, i.size, i.bytes)) = some (some (.agg #[.int .i64 0, .int .i64 0, .int .i64 0]), 3, 24) := by kernel_rfl
  obtain ⟨i, hi, hz⟩ := Option.map_eq_some_iff.1 h
  simp only [Prod.mk.injEq] at hz
  exact ⟨i, _, hi, hz.1, hz.2.1, hz.2.2, rfl⟩, by decide⟩
/-- What may come in as a route. -/
def FitsR (x : Rt) : Prop := (Lit.int .i64 x.adr).wf = true ∧ (Lit.int .i64 x.len).wf = true ∧ (Lit.int .i64 x.hop).wf = true
theorem route_dec {H : Type} {enc : TypeId × Value → H} {w : World} (fuel : Nat) (cs : List Value) (y : DataW H × List MemPlace) (h : DataW.trod enc Try.prog w 0 (fun _ => true) true fuel 36 cs = some y) : ∃ x : Rt, cs = layR.enc x ∧ FitsR x := by
  obtain ⟨xs, n, rfl, hx, hl, hxl, hall⟩ := DataW.trod_struct Try.underlying36 h
  have hc : Try.prog.cellsOf 36 = 3 := by kernel_rfl
  have cp : Try.prog.cellsOf 34 = 2 := by kernel_rfl
  have ci : Try.prog.cellsOf 3 = 1 := by kernel_rfl
  rw [hc] at hl
  have h3 : xs.length = 2 := hxl
  obtain ⟨x0, x1, rfl⟩ : ∃ x0 x1, xs = [x0, x1] := by
    match xs, h3 with
    | [x0, x1], _ => exact ⟨x0, x1, rfl⟩
  have f0 := hall 0 _ rfl
  have f1 := hall 1 _ rfl
  change DataW.trod _ _ _ _ _ _ _ 34 ((cs.drop 0).take (Try.prog.cellsOf 34)) = some x0 at f0
  change DataW.trod _ _ _ _ _ _ _ 3 ((cs.drop 2).take (Try.prog.cellsOf 3)) = some x1 at f1
  rw [cp] at f0
  rw [ci] at f1
  obtain ⟨p, e0, hp⟩ := Cidr.prefix_dec _ _ _ f0
  obtain ⟨b, e1, _, hb⟩ := DataW.trod_int Try.underlying3 f1
  refine ⟨⟨p.adr, p.len, b⟩, ?_, hp.1, hp.2, hb⟩
  match cs, hl with
  | [c0, c1, c2], _ =>
    have e0' : [c0, c1] = [Value.int .i64 p.adr, Value.int .i64 p.len] := e0
    simp at e0' e1
    obtain ⟨rfl, rfl⟩ := e0'
    subst e1
    rfl
theorem open_route {H : Type} {enc : TypeId × Value → H} {w : World} {r : Reach} {b0 : Nat} {v : Value} {d : DataW H} {ps : List MemPlace}
    (hval : Value.okWide Try.prog w r b0 36 v) (hd : DataW.Trod enc Try.prog w 0 (fun _ => true) true 36 v d ps) : ∃ x : Rt, v = val x ∧ FitsR x := by
  obtain ⟨fuel, hf⟩ := hd
  obtain ⟨x, hx, hF⟩ := route_dec fuel v.cells.toList (d, ps) hf
  obtain ⟨cs, rfl, _⟩ := okWide_struct Try.underlying36 hval
  refine ⟨x, ?_, hF⟩
  have h1 : cs.toList = layR.enc x := hx
  have : cs = #[.int .i64 x.adr, .int .i64 x.len, .int .i64 x.hop] := Array.toList_inj.1 h1
  subst this
  rfl
/-- A route in a block. -/
def BoxR (w : World) (g : Nat) (x : Rt) : Prop := g < w.heap.size ∧ w.cell? ⟨g, 0, none⟩ = some (.int .i64 x.adr) ∧ w.cell? ⟨g, 1, none⟩ = some (.int .i64 x.len) ∧ w.cell? ⟨g, 2, none⟩ = some (.int .i64 x.hop)
theorem BoxR.new (w : World) (x : Rt) (t : TypeId) : BoxR (w.alloc (.cells #[.int .i64 x.adr, .int .i64 x.len, .int .i64 x.hop] t)) w.heap.size x := by
  have h : (w.alloc (.cells #[.int .i64 x.adr, .int .i64 x.len, .int .i64 x.hop] t)).heap[w.heap.size]? = some (.cells #[.int .i64 x.adr, .int .i64 x.len, .int .i64 x.hop] t) := alloc_new w _
  refine ⟨by simp, ?_, ?_, ?_⟩ <;> (unfold World.cell?; rw [h]; rfl)
theorem BoxR.below {w w' : World} {g B : Nat} {x : Rt} (h : BoxR w g x) (hb : Below B w w') (hg : g < B) : BoxR w' g x := by
  have hk : w'.heap[g]? = w.heap[g]? := hb.block g hg
  exact ⟨Nat.lt_of_lt_of_le h.1 hb.size, (World.cell?_of_block (w := w) (a := ⟨g, 0, none⟩) hk).trans h.2.1, (World.cell?_of_block (w := w) (a := ⟨g, 1, none⟩) hk).trans h.2.2.1, (World.cell?_of_block (w := w) (a := ⟨g, 2, none⟩) hk).trans h.2.2.2⟩
end Go.Proofs.Ytlojehakifagbaa.Route
