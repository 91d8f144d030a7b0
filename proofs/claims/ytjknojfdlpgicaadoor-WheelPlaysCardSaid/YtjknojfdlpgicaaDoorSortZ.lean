/- slices.Sort at a slice of numbers of the call's own. No statement is proved here. -/
import Derived.Test.YtjknojfdlpgicaaDoorSortI
import Derived.Test.YtjknojfdlpgicaaDoorQueue
import Derived.Shelf.Sort.Plain
import Derived.Shelf.Slices.In.SortNone
namespace Go.Proofs.YtjknojfdlpgicaaDoor.SortZ
open Go.ChangeShapes Go.WideShapes Go.ChangeAt Go.RowKit Go.Sort Go.Shelf Go.Lib Go.Proofs.YtjknojfdlpgicaaDoor.Kit Go.Proofs.YtjknojfdlpgicaaDoor.App Go.Proofs.YtjknojfdlpgicaaDoor.Queue
set_option linter.unusedVariables false
set_option maxRecDepth 100000

theorem get_arr (l : List Int) (j : Nat) (hj : j < l.length) : l.toArray[j]! = l[j]?.getD 0 := by
  rw [getElem!_pos l.toArray j (by simpa using hj), List.getElem?_eq_getElem hj]
  simp
theorem cells_at {w : World} {g : Nat} {cur : Array Value} {T : TypeId} (hg : w.heap[g]? = some (.cells cur T)) (k : Nat) : w.cell? ⟨g, k, none⟩ = cur[k]? ∧ w.frozen? ⟨g, k, none⟩ = false := by
  constructor
  · unfold World.cell?; rw [hg]; rfl
  · unfold World.frozen?; rw [hg]; simp
theorem holds_of {w : World} {g off : Nat} {cur : Array Value} {l : List Int} (hg : w.heap[g]? = some (.cells cur 3)) (hc : ∀ j : Nat, j < l.length → cur[off + j]? = some (.int .i64 (l[j]?.getD 0))) : Holds (Value.int .i64) w g off l.toArray := by
  intro j hj
  have hj' : j < l.length := by simpa using hj
  have h1 := cells_at hg (off + j)
  refine ⟨?_, h1.2⟩
  rw [h1.1, hc j hj', get_arr l j hj']
theorem put_heap (w : World) (n g off : Nat) (d : Array Int) (os : Array Obj) {cur : Array Value} (hg : w.heap[g]? = some (.cells cur 3)) :
    (grow (putRow (Value.int .i64) (Sort.ahead w n) g off d) os).heap[g]? = some (.cells (putCells (Value.int .i64) off d cur) 3) := by
  have hlt : g < w.heap.size := (Array.getElem?_eq_some_iff.1 hg).1
  rw [heap_grow_old _ _ (by simpa [putRow, mapBlock] using hlt)]
  unfold putRow mapBlock
  simp only [heap_ahead, Array.getElem?_modify]
  rw [if_pos trivial, hg]
  rfl
theorem put_grown (w : World) (n g off : Nat) (d : Array Int) (os : Array Obj) : w.grownBy (grow (putRow (Value.int .i64) (Sort.ahead w n) g off d) os) (some g) := by
  refine ⟨rfl, rfl, rfl, by simp [grow, putRow, mapBlock], fun k hk hne => ?_⟩
  rw [heap_grow_old _ _ (by simpa [putRow, mapBlock] using hk)]
  unfold putRow mapBlock
  simp only [heap_ahead, Array.getElem?_modify]
  rw [if_neg (fun e => hne (by rw [e]))]
theorem putCells_get (off : Nat) (l : List Int) (cur : Array Value) (hs : off + l.length ≤ cur.size) (j : Nat) (hj : j < l.length) : (putCells (Value.int .i64) off l.toArray cur)[off + j]? = some (.int .i64 (l[j]?.getD 0)) := by
  unfold putCells
  rw [Array.getElem?_mapIdx, Array.getElem?_eq_getElem (by omega)]
  simp only [Option.map_some]
  rw [if_pos (by simpa using hj), show off + j - off = j by omega, get_arr l j hj]
theorem sort_any (base : Nat) (v : Value) (l : List Int) (w : World) (ho : OwnQ w base v l) (hl : l.length ≤ 1000000) :
    Calls Tryd.prog 15 #[v] w fun e w' => e = .returned (.tuple #[]) ∧ OwnQ w' base v (l.mergeSort fun x y => decide (x ≤ y)) ∧ w.grownBy w' v.ownBlock := by
  obtain ⟨hw, ⟨rfl, rfl⟩ | ⟨g, off, cap, cur, rfl, hb, hg, hmc, hc, hfit, hxs⟩⟩ := ho
  · refine (Any.slices_Sort_int_none Tryd.sortI none 0 w).mono ?_
    rintro e w' ⟨rfl, rfl⟩
    exact ⟨rfl, by rw [List.mergeSort_nil]; exact OwnQ.nil _ _, ⟨rfl, rfl, rfl, Nat.le_refl _, fun _ _ _ => rfl⟩⟩
  · refine (Any.slices_Sort_int Tryd.sortI g off cap l w (holds_of hg hxs) (Array.getElem?_eq_some_iff.1 hg).1 (by omega)).mono ?_
    rintro e w' ⟨rfl, n, os, rfl⟩
    obtain ⟨l', hl'⟩ : ∃ l', (l.mergeSort fun x y => decide (x ≤ y)) = l' := ⟨_, rfl⟩
    have hlen : l'.length = l.length := by rw [← hl', List.length_mergeSort]
    rw [hl']
    refine ⟨rfl, ⟨fun x hx => hw x ?_, .inr ⟨g, off, cap, _, by rw [hlen], hb, put_heap w n g off _ os hg, by omega, hc, ?_, fun j hj => ?_⟩⟩, put_grown w n g off _ os⟩
    · rw [← hl'] at hx; exact List.mem_mergeSort.1 hx
    · unfold putCells; rw [Array.size_mapIdx]; exact hfit
    · exact putCells_get off l' cur (by omega) j hj
end Go.Proofs.YtjknojfdlpgicaaDoor.SortZ
