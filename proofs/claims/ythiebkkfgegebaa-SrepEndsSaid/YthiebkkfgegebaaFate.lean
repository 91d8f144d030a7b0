/- Fates: how they lie in memory, as they come in. No statement is proved here. -/
import Derived.Test.YthiebkkfgegebaaCells
import Derived.ChangeMaps5
import Derived.BigQuiet
import Derived.RegionTactic
namespace Go.Proofs.Ythiebkkfgegebaa.Fate
open Go.ChangeShapes Go.WideShapes Go.ChangeAt Go.RowKit Go.Proofs.Ythiebkkfgegebaa.Kit Go.Proofs.Ythiebkkfgegebaa.App Go.Proofs.Ythiebkkfgegebaa.Cells
set_option linter.unusedVariables false
set_option maxRecDepth 20000

/-- A fate: whether the packet is lost there, whether its answer is lost on its way back. -/
structure Fat where
  there : Bool
  back : Bool
def lay : Lay Fat := ⟨fun x => [.bool x.there, .bool x.back], 2, by decide, fun _ => rfl, fun x v hv => by
  simp only [List.mem_cons, List.not_mem_nil, or_false] at hv
  rcases hv with rfl | rfl <;> rfl⟩
theorem fate_dec {H : Type} {enc : TypeId × Value → H} {w : World} (fuel : Nat) (cs : List Value) (y : DataW H × List MemPlace) (h : DataW.trod enc Try.prog w 0 (fun _ => true) true fuel 32 cs = some y) : ∃ x : Fat, cs = lay.enc x ∧ True := by
  obtain ⟨xs, n, rfl, hx, hl, hxl, hall⟩ := DataW.trod_struct Try.underlying32 h
  have hc : Try.prog.cellsOf 32 = 2 := by kernel_rfl
  have cb : Try.prog.cellsOf 4 = 1 := by kernel_rfl
  rw [hc] at hl
  have h3 : xs.length = 2 := hxl
  obtain ⟨x0, x1, rfl⟩ : ∃ x0 x1, xs = [x0, x1] := by
    match xs, h3 with
    | [x0, x1], _ => exact ⟨x0, x1, rfl⟩
  have f0 := hall 0 _ rfl
  have f1 := hall 1 _ rfl
  change DataW.trod _ _ _ _ _ _ _ 4 ((cs.drop 0).take (Try.prog.cellsOf 4)) = some x0 at f0
  change DataW.trod _ _ _ _ _ _ _ 4 ((cs.drop 1).take (Try.prog.cellsOf 4)) = some x1 at f1
  rw [cb] at f0 f1
  obtain ⟨a, e0, _⟩ := DataW.trod_bool Try.underlying4 f0
  obtain ⟨b, e1, _⟩ := DataW.trod_bool Try.underlying4 f1
  refine ⟨⟨a, b⟩, ?_, trivial⟩
  match cs, hl with
  | [c0, c1], _ =>
    simp at e0 e1
    subst e0; subst e1
    rfl
theorem open_fates {H : Type} {enc : TypeId × Value → H} {w : World} {r : Reach} {b0 : Nat} {v : Value} {d : DataW H} {ps : List MemPlace}
    (hval : Value.okWide Try.prog w r b0 23 v) (hd : DataW.Trod enc Try.prog w 0 (fun _ => true) true 23 v d ps) (hlt : ∀ x ∈ ps, x.block < w.heap.size) :
    ∃ p cap ls, v = .slice p ls.length cap ∧ CI lay w p cap ls ∧ (ls.length = 0 ∨ ∃ es sp, d = .slice es sp ∧ es.length = ls.length) := by
  obtain ⟨p, cap, ls, h1, h2, _, h4⟩ := open_C (fun _ => True) Try.underlying23 (by kernel_rfl) fate_dec hval hd hlt
  exact ⟨p, cap, ls, h1, h2, h4⟩
/-- A literal of fates. -/
theorem lit_fates (w : World) (l : List Fat) (t : TypeId) (hm : l.length ≤ 700) : CI lay (w.alloc (.cells (lay.all l).toArray t)) (some ⟨w.heap.size, 0, none⟩) l.length l :=
  ⟨Nat.le_refl _, by unfold maxLen; omega, fun _ => ⟨w.heap.size, 0, rfl, by simp, fun j x hj i v hv => by
    have h1 : (w.alloc (.cells (lay.all l).toArray t)).heap[w.heap.size]? = some (.cells (lay.all l).toArray t) := alloc_new w _
    have hi : i < 2 := by
      rcases Nat.lt_or_ge i 2 with h | h
      · exact h
      · rw [List.getElem?_eq_none (by rw [lay.len]; exact h)] at hv; cases hv
    unfold World.cell?
    rw [h1]
    have hg := lay.all_get l j x hj i hi
    rw [hv] at hg
    simpa using hg⟩⟩
/-- The cells of the fate at a place, whatever has come since. -/
theorem fate_at {w : World} {p : Option Addr} {cap : Nat} {l : List Fat} (h : CI lay w p cap l) (hl : 0 < l.length) : ∃ b off, p = some ⟨b, off, none⟩ ∧ b < w.heap.size ∧
    ∀ w', Below w.heap.size w w' → ∀ (k : Nat) (x : Fat), l[k]? = some x → w'.cell? ⟨b, off + k * 2, none⟩ = some (.bool x.there) ∧ w'.cell? ⟨b, off + k * 2 + 1, none⟩ = some (.bool x.back) := by
  obtain ⟨b, off, rfl, hb, hc⟩ := h.2.2 hl
  refine ⟨b, off, rfl, hb, fun w' hB k x hx => ⟨?_, ?_⟩⟩
  · exact (hB.cell (p := ⟨b, off + k * 2, none⟩) hb).trans (hc k x hx 0 _ rfl)
  · exact (hB.cell (p := ⟨b, off + k * 2 + 1, none⟩) hb).trans (hc k x hx 1 _ rfl)
end Go.Proofs.Ythiebkkfgegebaa.Fate
