/- Numbers in a block of the call's own, from its beginning on, written in place; the functions of slices that ask a function of each. General. No statement is proved here. -/
import Derived.Test.YtggnpecmldnmnaaDoorErr
import Derived.Test.YtggnpecmldnmnaaDoorOwnI
import Derived.Lib.SliceRun
namespace Go.Proofs.YtggnpecmldnmnaaDoor.RowQ
open Go.ChangeShapes Go.WideShapes Go.ChangeAt Go.RowKit Go.Proofs.YtggnpecmldnmnaaDoor.Kit Go.Proofs.YtggnpecmldnmnaaDoor.App Go.Proofs.YtggnpecmldnmnaaDoor.Err
set_option linter.unusedVariables false
set_option maxRecDepth 20000
set_option maxHeartbeats 1000000

theorem zeroZ (w : World) : (zeroValue 3).run Tryd.prog w = .ok (.int .i64 0) w := by kernel_rfl
/-- In block g lie the numbers l, with room for cap. -/
def RowQ (w : World) (g cap : Nat) (l : List Int) : Prop :=
  (∀ x ∈ l, (Lit.int .i64 x).wf = true) ∧ ∃ cur : Array Value, w.heap[g]? = some (.cells cur 3) ∧ l.length ≤ cap ∧ cap ≤ maxLen ∧ cap ≤ cur.size ∧ ∀ j : Nat, j < l.length → cur[j]? = some (.int .i64 (l[j]?.getD 0))
variable {w w' : World} {g cap : Nat} {l : List Int}
theorem row_of {base n : Nat} (h : OwnI w base (.slice (some ⟨g, 0, none⟩) n cap) l) : n = l.length ∧ RowQ w g cap l := by
  have h0 := h
  obtain ⟨⟨_, ⟨e, _⟩ | ⟨g', cap', cur, e, hb, hh, hnc, hcm, hcs, ht⟩⟩, hw⟩ := h
  · cases e
  · injection e with e1 e2 e3
    injection e1 with e1
    injection e1 with e1
    subst e1; subst e3
    refine ⟨e2, hw, cur, hh, hnc, hcm, by omega, fun j hj => ?_⟩
    rw [e2] at h0
    have := own_cell h0 j hj
    unfold World.cell? at this
    rw [hh] at this
    exact this
theorem RowQ.lt (h : RowQ w g cap l) : g < w.heap.size := by
  obtain ⟨h1, cur, h2, _⟩ := h
  exact (Array.getElem?_eq_some_iff.1 h2).1
theorem RowQ.cell (h : RowQ w g cap l) {j : Nat} (hj : j < l.length) : w.cell? ⟨g, j, none⟩ = some (.int .i64 (l[j]?.getD 0)) := by
  obtain ⟨h1, cur, h2, h3, h4, h5, h6⟩ := h
  unfold World.cell?
  rw [h2]
  exact h6 j hj
theorem RowQ.fz (h : RowQ w g cap l) (k : Nat) : w.frozen? ⟨g, k, none⟩ = false := by
  obtain ⟨h1, cur, h2, _⟩ := h
  unfold World.frozen?
  rw [h2]
  simp
theorem RowQ.room (h : RowQ w g cap l) {j : Nat} (hj : j < cap) : (w.cell? ⟨g, j, none⟩).isSome = true := by
  obtain ⟨h1, cur, h2, h3, h4, h5, h6⟩ := h
  unfold World.cell?
  rw [h2]
  simp
  omega
theorem RowQ.caps (h : RowQ w g cap l) : l.length ≤ cap ∧ cap ≤ maxLen := by
  obtain ⟨h1, cur, h2, h3, h4, h5, h6⟩ := h
  exact ⟨h3, h4⟩
theorem RowQ.ints (h : RowQ w g cap l) : Ints w (some ⟨g, 0, none⟩) cap l :=
  ⟨h.caps.1, h.caps.2, fun j => by
    by_cases hj : j < l.length
    · rw [List.getElem?_eq_getElem hj]; exact h.1 _ (List.getElem_mem hj)
    · rw [List.getElem?_eq_none (by omega)]; simp [Lit.wf, IntKind.min, IntKind.max, IntKind.signed, IntKind.bits], fun _ => ⟨g, 0, rfl, h.lt, fun j hj => by rw [Nat.zero_add]; exact h.cell hj⟩⟩
theorem RowQ.set (h : RowQ w g cap l) (k : Nat) (x : Int) (hx : (Lit.int .i64 x).wf = true) : RowQ (w.setCell ⟨g, k, none⟩ (.int .i64 x)) g cap (l.set k x) := by
  obtain ⟨h1, cur, h2, h3, h4, h5, h6⟩ := h
  refine ⟨fun y hy => ?_, cur.setIfInBounds k (.int .i64 x), by simp [World.setCell, Array.getElem?_modify, h2], by rw [List.length_set]; exact h3, h4, by simpa using h5, fun j hj => ?_⟩
  · rcases List.mem_or_eq_of_mem_set hy with h | h
    · exact h1 y h
    · rw [h]; exact hx
  · rw [List.length_set] at hj
    rw [Array.getElem?_setIfInBounds, List.getElem?_set]
    by_cases e : k = j
    · subst e
      rw [if_pos rfl, if_pos (by omega), if_pos rfl, if_pos hj]; rfl
    · rw [if_neg (by omega), if_neg e]
      exact h6 j hj
theorem RowQ.take (h : RowQ w g cap l) (k : Nat) : RowQ w g cap (l.take k) := by
  obtain ⟨h1, cur, h2, h3, h4, h5, h6⟩ := h
  refine ⟨fun y hy => h1 y (List.mem_of_mem_take hy), cur, h2, by rw [List.length_take]; omega, h4, h5, fun j hj => ?_⟩
  rw [List.length_take] at hj
  rw [List.getElem?_take, if_pos (by omega)]
  exact h6 j (by omega)
theorem RowQ.beyond (h : RowQ w g cap l) (k : Nat) (v : Value) (hk : l.length ≤ k) : RowQ (w.setCell ⟨g, k, none⟩ v) g cap l := by
  obtain ⟨h1, cur, h2, h3, h4, h5, h6⟩ := h
  refine ⟨h1, cur.setIfInBounds k v, by simp [World.setCell, Array.getElem?_modify, h2], h3, h4, by simpa using h5, fun j hj => ?_⟩
  rw [Array.getElem?_setIfInBounds, if_neg (by omega)]
  exact h6 j hj
theorem gtrans {a b c : World} {g : Nat} (h : a.grownBy b (some g)) (h2 : b.grownBy c (some g)) : a.grownBy c (some g) :=
  ⟨h2.os.trans h.os, h2.tape.trans h.tape, h2.output.trans h.output, Nat.le_trans h.size h2.size, fun k hk hne => (h2.block k (Nat.lt_of_lt_of_le hk h.size) hne).trans (h.block k hk hne)⟩
theorem RowQ.sets : ∀ (vs : List Value) (w : World) (k : Nat), RowQ w g cap l → l.length ≤ k → RowQ (w.setCells g k vs) g cap l ∧ w.grownBy (w.setCells g k vs) (some g)
  | [], w, k, h, hk => ⟨h, ⟨rfl, rfl, rfl, Nat.le_refl _, fun _ _ _ => rfl⟩⟩
  | v :: vs, w, k, h, hk => by
    obtain ⟨h1, h2⟩ := RowQ.sets vs (w.setCell ⟨g, k, none⟩ v) (k + 1) (h.beyond k v hk) (by omega)
    exact ⟨h1, gtrans (set_grown w g k v) h2⟩
theorem RowQ.more {row : Option Nat} (h : RowQ w g cap l) (hg : w.grownBy w' row) (hne : some g ≠ row) : RowQ w' g cap l := by
  have hlt := h.lt
  obtain ⟨h1, cur, h2, h3⟩ := h
  exact ⟨h1, cur, (hg.block g hlt hne).trans h2, h3⟩
theorem RowQ.below (h : RowQ w g cap l) (hb : Below w.heap.size w w') : RowQ w' g cap l :=
  h.more (row := none) ⟨hb.os, hb.tape, hb.output, hb.size, fun k hk _ => hb.block k hk⟩ (by simp)
theorem RowQ.drewN (h : RowQ w g cap l) (m : Nat) : RowQ (w.drewN m) g cap l := h
end Go.Proofs.YtggnpecmldnmnaaDoor.RowQ
