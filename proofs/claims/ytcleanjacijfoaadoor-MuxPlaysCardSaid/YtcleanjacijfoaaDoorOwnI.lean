/- A slice of numbers of the call's own, as it is written in place. No statement is proved here. -/
import Derived.Test.YtcleanjacijfoaaDoorErr
import Derived.Test.YtcleanjacijfoaaDoorSub
import Derived.Laws.OwnMore
namespace Go.Proofs.YtcleanjacijfoaaDoor.App
open Go.ChangeShapes Go.WideShapes Go.ChangeAt Go.RowKit Go.Proofs.YtcleanjacijfoaaDoor.Kit
set_option linter.unusedVariables false
set_option maxRecDepth 20000

theorem own_set {w : World} {base g cap n : Nat} {l : List Int} (hown : OwnI w base (.slice (some ⟨g, 0, none⟩) n cap) l) (j : Nat) (x : Int) (hx : (Lit.int .i64 x).wf = true) :
    OwnI (w.setCell ⟨g, j, none⟩ (.int .i64 x)) base (.slice (some ⟨g, 0, none⟩) n cap) (l.set j x) := by
  obtain ⟨h1, h2⟩ := hown
  have hn : n = l.length := by
    rcases h1.2 with ⟨e, _⟩ | ⟨g', cap', cur, e, _⟩
    · cases e
    · injection e
  subst hn
  refine ⟨?_, fun y hy => ?_⟩
  · have := World.ownsRow.stored h1 j (.int .i64 x)
    rw [List.length_set, List.map_set]
    exact this.1
  · rcases List.mem_or_eq_of_mem_set hy with h | rfl
    · exact h2 y h
    · exact hx
theorem own_cell {w : World} {base g cap n : Nat} {l : List Int} (h : OwnI w base (.slice (some ⟨g, 0, none⟩) n cap) l) (k : Nat) (hk : k < l.length) : w.cell? ⟨g, k, none⟩ = some (.int .i64 (l[k]?.getD 0)) := by
  obtain ⟨p, c, e, hi⟩ := h.form
  injection e with e1 e2 e3
  subst e1
  obtain ⟨b, off, e, _, hc⟩ := hi.2.2.2 (by omega)
  injection e with e
  injection e with e4 e5
  subst e4; subst e5
  have := hc k hk
  rwa [Nat.zero_add] at this
theorem own_fz {w : World} {base g cap n : Nat} {l : List Int} (h : OwnI w base (.slice (some ⟨g, 0, none⟩) n cap) l) (k : Nat) : w.frozen? ⟨g, k, none⟩ = false := by
  obtain ⟨p, c, e, hi⟩ := h.form
  injection e with e1 e2 e3
  subst e2
  exact World.ownsRow.frozenAt h.1 k
theorem box_keep {w w' : World} {b g : Nat} {v : Value} (h : w.cell? ⟨b, 0, none⟩ = some v) (hg : w.grownBy w' (some g)) (hne : b ≠ g) : w'.cell? ⟨b, 0, none⟩ = some v := by
  have hlt : b < w.heap.size := by
    rcases Nat.lt_or_ge b w.heap.size with hlt | hge
    · exact hlt
    · unfold World.cell? at h; rw [Array.getElem?_eq_none hge] at h; simp at h
  exact (World.cell?_of_block (hg.block b hlt (fun e => hne (Option.some.inj e)))).trans h
theorem own_pos {w : World} {base : Nat} {v : Value} {l : List Int} (h : OwnI w base v l) (hl : 0 < l.length) : ∃ g cap, v = .slice (some ⟨g, 0, none⟩) l.length cap ∧ base ≤ g ∧ g < w.heap.size ∧ l.length ≤ cap ∧ cap ≤ 9223372036854775807 := by
  have hf := h.lt
  obtain ⟨⟨_, ⟨_, hn⟩ | ⟨g, cap, cur, rfl, hb, hh, hnc, hcm, _⟩⟩, _⟩ := h
  · omega
  · exact ⟨g, cap, rfl, hb, (hf g rfl).2, hnc, by unfold maxLen at hcm; omega⟩
theorem info_number : (Tryd.prog.info? 3).map (fun i => (i.zero, i.size, i.bytes)) = some (some (.int .i64 0), 1, 8) := by kernel_rfl
theorem own_of_row {w : World} {base g n cap : Nat} {l : List Int} (h : w.ownsRow base 3 1 (.slice (some ⟨g, 0, none⟩) n cap) n (l.map (Value.int .i64))) (hn : n = l.length) (hw : ∀ x ∈ l, (Lit.int .i64 x).wf = true) : OwnI w base (.slice (some ⟨g, 0, none⟩) n cap) l := by
  subst hn
  exact ⟨h, hw⟩
/-- A slice that the call makes. -/
theorem made_ints (w : World) (n : Nat) (hn : n ≤ 1000) : ∃ w', (Instr.makeSlice 37 (.int .i64 (n : Int)) (.int .i64 (n : Int))).run Tryd.prog w = .ok (.slice (some ⟨w.heap.size, 0, none⟩) n n) w' ∧ OwnI w' w.heap.size (.slice (some ⟨w.heap.size, 0, none⟩) n n) (List.replicate n 0) ∧ w.grownBy w' none := by
  obtain ⟨i, hi, hz⟩ := Option.map_eq_some_iff.1 info_number
  simp only [Prod.mk.injEq] at hz
  obtain ⟨w', h1, h2, h3⟩ := run_makeSlice_full (P := Tryd.prog) (w := w) w.heap.size 37 3 i (.int .i64 0) 1 Tryd.underlying37 hi hz.1 hz.2.1 .i64 .i64 n (by omega) (by rw [hz.2.2]; omega) (by unfold maxLen; omega) (Nat.le_refl _)
  refine ⟨w', h1, own_of_row ?_ (by simp) (fun x hx => by obtain rfl := (List.mem_replicate.1 hx).2; decide), h3⟩
  have e2 : (madeCells (Value.cells (.int .i64 0)) (n * 1)).toList = List.replicate (n * 1) (.int .i64 0) := toList_madeCells_one _ _
  rw [e2, Nat.mul_one] at h2
  rw [List.map_replicate]
  exact h2
end Go.Proofs.YtcleanjacijfoaaDoor.App
