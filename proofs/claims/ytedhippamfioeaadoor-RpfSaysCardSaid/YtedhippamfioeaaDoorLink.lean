/- Links: how they lie in memory, as they come in. No statement is proved here. -/
import Derived.Test.YtedhippamfioeaaDoorVecMath
import Derived.Test.YtedhippamfioeaaDoorCells
import Derived.Test.YtedhippamfioeaaDoorErr
import Derived.ChangeMaps5
import Derived.BigQuiet
import Derived.RegionTactic
namespace Go.Proofs.YtedhippamfioeaaDoor.Vector
open Go.ChangeShapes Go.WideShapes Go.ChangeAt Go.RowKit Go.Proofs.YtedhippamfioeaaDoor.Kit Go.Proofs.YtedhippamfioeaaDoor.App Go.Proofs.YtedhippamfioeaaDoor.Cells
set_option linter.unusedVariables false
set_option maxRecDepth 20000

def layL : Lay Lk := ⟨fun x => [.int .i64 x.a, .int .i64 x.b, .int .i64 x.c], 3, by decide, fun _ => rfl, fun x v hv => by
  simp only [List.mem_cons, List.not_mem_nil, or_false] at hv
  rcases hv with rfl | rfl | rfl <;> rfl⟩
theorem tyL : Ty layL 22 39 24 := ⟨Tryd.underlying22, by
  have h : (Tryd.prog.info? 39).map (fun i => (i.zero, i.size, i.bytes)) = some (some (.agg #[.int .i64 0, .int .i64 0, .int .i64 0]), 3, 24) := by kernel_rfl
  obtain ⟨i, hi, hz⟩ := Option.map_eq_some_iff.1 h
  simp only [Prod.mk.injEq] at hz
  exact ⟨i, _, hi, hz.1, hz.2.1, hz.2.2, rfl⟩, by decide⟩
theorem link_dec {H : Type} {enc : TypeId × Value → H} {w : World} (fuel : Nat) (cs : List Value) (y : DataW H × List MemPlace) (h : DataW.trod enc Tryd.prog w 0 (fun _ => true) true fuel 39 cs = some y) : ∃ x : Lk, cs = layL.enc x ∧ True := by
  obtain ⟨xs, n, rfl, hx, hl, hxl, hall⟩ := DataW.trod_struct Tryd.underlying39 h
  have hc : Tryd.prog.cellsOf 39 = 3 := by kernel_rfl
  have ci : Tryd.prog.cellsOf 3 = 1 := by kernel_rfl
  rw [hc] at hl
  have h3 : xs.length = 3 := hxl
  obtain ⟨x0, x1, x2, rfl⟩ : ∃ x0 x1 x2, xs = [x0, x1, x2] := by
    match xs, h3 with
    | [x0, x1, x2], _ => exact ⟨x0, x1, x2, rfl⟩
  have f0 := hall 0 _ rfl
  have f1 := hall 1 _ rfl
  have f2 := hall 2 _ rfl
  change DataW.trod _ _ _ _ _ _ _ 3 ((cs.drop 0).take (Tryd.prog.cellsOf 3)) = some x0 at f0
  change DataW.trod _ _ _ _ _ _ _ 3 ((cs.drop 1).take (Tryd.prog.cellsOf 3)) = some x1 at f1
  change DataW.trod _ _ _ _ _ _ _ 3 ((cs.drop 2).take (Tryd.prog.cellsOf 3)) = some x2 at f2
  rw [ci] at f0 f1 f2
  obtain ⟨a, e0, _, ha⟩ := DataW.trod_int Tryd.underlying3 f0
  obtain ⟨b, e1, _, hb⟩ := DataW.trod_int Tryd.underlying3 f1
  obtain ⟨c, e2, _, hc⟩ := DataW.trod_int Tryd.underlying3 f2
  refine ⟨⟨a, b, c⟩, ?_, trivial⟩
  match cs, hl with
  | [c0, c1, c2], _ =>
    simp at e0 e1 e2
    subst e0; subst e1; subst e2
    rfl
theorem open_links {H : Type} {enc : TypeId × Value → H} {w : World} {r : Reach} {b0 : Nat} {v : Value} {d : DataW H} {ps : List MemPlace}
    (hval : Value.okWide Tryd.prog w r b0 22 v) (hd : DataW.Trod enc Tryd.prog w 0 (fun _ => true) true 22 v d ps) (hlt : ∀ x ∈ ps, x.block < w.heap.size) :
    ∃ p cap ls, v = .slice p ls.length cap ∧ CI layL w p cap ls ∧ (ls.length = 0 ∨ ∃ es sp, d = .slice es sp ∧ es.length = ls.length) := by
  obtain ⟨p, cap, ls, h1, h2, _, h4⟩ := open_C (fun _ => True) Tryd.underlying22 (by kernel_rfl) link_dec hval hd hlt
  exact ⟨p, cap, ls, h1, h2, h4⟩
/-- A literal of links. -/
theorem lit_links (w : World) (l : List Lk) (t : TypeId) (hm : l.length ≤ 700) : CI layL (w.alloc (.cells (layL.all l).toArray t)) (some ⟨w.heap.size, 0, none⟩) l.length l :=
  ⟨Nat.le_refl _, by unfold maxLen; omega, fun _ => ⟨w.heap.size, 0, rfl, by simp, fun j x hj i v hv => by
    have h1 : (w.alloc (.cells (layL.all l).toArray t)).heap[w.heap.size]? = some (.cells (layL.all l).toArray t) := alloc_new w _
    have hi : i < 3 := by
      rcases Nat.lt_or_ge i 3 with h | h
      · exact h
      · rw [List.getElem?_eq_none (by rw [layL.len]; exact h)] at hv; cases hv
    unfold World.cell?
    rw [h1]
    have hg := layL.all_get l j x hj i hi
    rw [hv] at hg
    simpa using hg⟩⟩
theorem lk_get {ls : List Lk} {k : Nat} (h : k < ls.length) : ls[k]? = some (lk ls k) := by
  unfold lk; rw [List.getElem?_eq_getElem h]; rfl
/-- The cells of the link at a place, whatever has come since. -/
theorem links_at {w : World} {p : Option Addr} {cap : Nat} {l : List Lk} (h : CI layL w p cap l) (hl : 0 < l.length) : ∃ b off, p = some ⟨b, off, none⟩ ∧ b < w.heap.size ∧
    ∀ w', Below w.heap.size w w' → ∀ k, k < l.length → w'.cell? ⟨b, off + k * 3, none⟩ = some (.int .i64 (lk l k).a) ∧ w'.cell? ⟨b, off + k * 3 + 1, none⟩ = some (.int .i64 (lk l k).b) ∧ w'.cell? ⟨b, off + k * 3 + 2, none⟩ = some (.int .i64 (lk l k).c) := by
  obtain ⟨b, off, rfl, hb, hc⟩ := h.2.2 hl
  refine ⟨b, off, rfl, hb, fun w' hB k hk => ⟨?_, ?_, ?_⟩⟩
  · exact (hB.cell (p := ⟨b, off + k * 3, none⟩) hb).trans (hc k _ (lk_get hk) 0 _ rfl)
  · exact (hB.cell (p := ⟨b, off + k * 3 + 1, none⟩) hb).trans (hc k _ (lk_get hk) 1 _ rfl)
  · exact (hB.cell (p := ⟨b, off + k * 3 + 2, none⟩) hb).trans (hc k _ (lk_get hk) 2 _ rfl)
/-- A link in a block. -/
def BoxL (w : World) (g : Nat) (x : Lk) : Prop := g < w.heap.size ∧ w.cell? ⟨g, 0, none⟩ = some (.int .i64 x.a) ∧ w.cell? ⟨g, 1, none⟩ = some (.int .i64 x.b) ∧ w.cell? ⟨g, 2, none⟩ = some (.int .i64 x.c)
theorem BoxL.new (w : World) (x : Lk) (t : TypeId) : BoxL (w.alloc (.cells #[.int .i64 x.a, .int .i64 x.b, .int .i64 x.c] t)) w.heap.size x := by
  have h : (w.alloc (.cells #[.int .i64 x.a, .int .i64 x.b, .int .i64 x.c] t)).heap[w.heap.size]? = some (.cells #[.int .i64 x.a, .int .i64 x.b, .int .i64 x.c] t) := alloc_new w _
  refine ⟨by simp, ?_, ?_, ?_⟩ <;> (unfold World.cell?; rw [h]; rfl)
theorem BoxL.below {w w' : World} {g B : Nat} {x : Lk} (h : BoxL w g x) (hb : Below B w w') (hg : g < B) : BoxL w' g x := by
  have hk : w'.heap[g]? = w.heap[g]? := hb.block g hg
  refine ⟨Nat.lt_of_lt_of_le h.1 hb.size, ?_, ?_, ?_⟩
  · exact (World.cell?_of_block (w := w) (a := ⟨g, 0, none⟩) hk).trans h.2.1
  · exact (World.cell?_of_block (w := w) (a := ⟨g, 1, none⟩) hk).trans h.2.2.1
  · exact (World.cell?_of_block (w := w) (a := ⟨g, 2, none⟩) hk).trans h.2.2.2
theorem BoxL.more {w w' : World} {g b : Nat} {x : Lk} (h : BoxL w g x) (hg : w.grownBy w' (some b)) (hne : g ≠ b) : BoxL w' g x := by
  have hk : w'.heap[g]? = w.heap[g]? := hg.block g h.1 (by simpa using hne)
  refine ⟨Nat.lt_of_lt_of_le h.1 hg.size, ?_, ?_, ?_⟩
  · exact (World.cell?_of_block (w := w) (a := ⟨g, 0, none⟩) hk).trans h.2.1
  · exact (World.cell?_of_block (w := w) (a := ⟨g, 1, none⟩) hk).trans h.2.2.1
  · exact (World.cell?_of_block (w := w) (a := ⟨g, 2, none⟩) hk).trans h.2.2.2
end Go.Proofs.YtedhippamfioeaaDoor.Vector
