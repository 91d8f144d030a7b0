/- Slices of truths: as they lie in memory, of the call's own, made, written in place, literal. No statement is proved here. -/
import Derived.Test.YtedhippamfioeaaCells
import Derived.Test.YtedhippamfioeaaErr
import Derived.Laws.OwnMore
import Derived.BigQuiet
import Derived.RegionTactic
namespace Go.Proofs.Ytedhippamfioeaa.Truth
open Go.ChangeShapes Go.WideShapes Go.ChangeAt Go.RowKit Go.Proofs.Ytedhippamfioeaa.Kit Go.Proofs.Ytedhippamfioeaa.App Go.Proofs.Ytedhippamfioeaa.Err Go.Proofs.Ytedhippamfioeaa.Cells
set_option linter.unusedVariables false
set_option maxRecDepth 20000

/-- A truth lies in one cell. -/
def layT : Lay Bool := ⟨fun x => [.bool x], 1, by decide, fun _ => rfl, fun x v hv => by
  rw [List.mem_singleton.1 hv]; rfl⟩
theorem info_truth : (Try.prog.info? 4).map (fun i => (i.zero, i.size, i.bytes)) = some (some (.bool false), 1, 1) := by kernel_rfl
theorem tyT : Ty layT 34 4 1 := ⟨Try.underlying34, by
  obtain ⟨i, hi, hz⟩ := Option.map_eq_some_iff.1 info_truth
  simp only [Prod.mk.injEq] at hz
  exact ⟨i, _, hi, hz.1, hz.2.1, hz.2.2, rfl⟩, by decide⟩
theorem all_truth (u : List Bool) : layT.all u = u.map Value.bool := by
  induction u with
  | nil => rfl
  | cons a u ih =>
    show layT.enc a ++ layT.all u = _
    rw [ih]; rfl
/-- A slice of truths reads as a list. -/
def Tru (w : World) (p : Option Addr) (cap : Nat) (u : List Bool) : Prop := CI layT w p cap u
/-- A slice of truths of the call's own. -/
def OwnT (w : World) (base : Nat) (v : Value) (u : List Bool) : Prop := OC layT 4 w base v u
variable {w w' : World} {base g n cap : Nat} {v : Value} {p : Option Addr} {u : List Bool}
theorem Tru.len_le (h : Tru w p cap u) : u.length ≤ 9223372036854775807 := CI.len_le h
theorem Tru.below (h : Tru w p cap u) (hb : Below w.heap.size w w') : Tru w' p cap u := CI.below h hb
theorem Tru.drewN (h : Tru w p cap u) (n : Nat) : Tru (w.drewN n) p cap u := h
theorem Tru.nil (w : World) : Tru w none 0 [] := CI.nil _ _
theorem Tru.at (h : Tru w p cap u) (hl : 0 < u.length) : ∃ b off, p = some ⟨b, off, none⟩ ∧ b < w.heap.size ∧ ∀ W, Below w.heap.size w W → ∀ (k : Nat) (x : Bool), u[k]? = some x → W.cell? ⟨b, off + k, none⟩ = some (.bool x) := by
  obtain ⟨b, off, rfl, hb, hc⟩ := h.2.2 hl
  refine ⟨b, off, rfl, hb, fun W hB k x hx => ?_⟩
  have := hc k x hx 0 _ rfl
  rw [show off + (k * layT.k + 0) = off + k by show off + (k * 1 + 0) = off + k; omega] at this
  exact (hB.cell (p := ⟨b, off + k, none⟩) hb).trans this
theorem Tru.one (h : Tru w (some ⟨g, n, none⟩) cap u) (k : Nat) (x : Bool) (hx : u[k]? = some x) : w.cell? ⟨g, n + k, none⟩ = some (.bool x) := by
  have hl : 0 < u.length := by
    rcases Nat.eq_zero_or_pos u.length with h | h
    · rw [List.eq_nil_of_length_eq_zero h] at hx; cases hx
    · exact h
  obtain ⟨b, off, e, hb, hc⟩ := h.at hl
  injection e with e
  injection e with e1 e2
  subst e1; subst e2
  exact hc w (brefl w) k x hx
theorem OwnT.nil (w : World) (base : Nat) : OwnT w base (.slice none 0 0) [] := OC.nil _ _ _ _
theorem OwnT.more {row : Option Nat} (h : OwnT w base v u) (hg : w.grownBy w' row) (hne : v.ownBlock = none ∨ v.ownBlock ≠ row) : OwnT w' base v u := OC.more h hg hne
theorem OwnT.below (h : OwnT w base v u) (hb : Below w.heap.size w w') : OwnT w' base v u := OC.below h hb
theorem OwnT.alloc (h : OwnT w base v u) (o : Obj) : OwnT (w.alloc o) base v u := OC.alloc h o
theorem OwnT.drewN (h : OwnT w base v u) (n : Nat) : OwnT (w.drewN n) base v u := h
theorem OwnT.lt (h : OwnT w base v u) : ∀ k, v.ownBlock = some k → base ≤ k ∧ k < w.heap.size := OC.lt h
theorem OwnT.mono {b' : Nat} (h : OwnT w base v u) (hb : b' ≤ base) : OwnT w b' v u := OC.mono h hb
theorem OwnT.form (h : OwnT w base v u) : ∃ p cap, v = .slice p u.length cap ∧ Tru w p cap u := OC.form h
theorem OwnT.row (h : OwnT w base v u) : w.ownsRow base 4 1 v u.length (u.map Value.bool) := by
  have h1 : w.ownsRow base 4 1 v u.length (layT.all u) := h
  rwa [all_truth] at h1
theorem OwnT.of_row (h : w.ownsRow base 4 1 v u.length (u.map Value.bool)) : OwnT w base v u := by
  show w.ownsRow base 4 1 v u.length (layT.all u)
  rwa [all_truth]
theorem OwnT.cell (h : OwnT w base (.slice (some ⟨g, 0, none⟩) n cap) u) (k : Nat) (b : Bool) (hk : u[k]? = some b) : w.cell? ⟨g, k, none⟩ = some (.bool b) := by
  have hlt : k < u.length := by
    rcases Nat.lt_or_ge k u.length with h | h
    · exact h
    · rw [List.getElem?_eq_none h] at hk; cases hk
  obtain ⟨p, c, e, ht⟩ := h.form
  injection e with e1 e2 e3
  subst e1; subst e2; subst e3
  have := ht.one k b hk
  rwa [Nat.zero_add] at this
theorem OwnT.len (h : OwnT w base (.slice p n cap) u) : n = u.length := by
  obtain ⟨p, c, e, ht⟩ := h.form
  injection e
theorem OwnT.tru (h : OwnT w base (.slice p n cap) u) : n = u.length ∧ Tru w p cap u := by
  obtain ⟨p', c, e, ht⟩ := h.form
  injection e with e1 e2 e3
  subst e1; subst e3
  exact ⟨e2, ht⟩
theorem OwnT.fz (h : OwnT w base (.slice (some ⟨g, 0, none⟩) n cap) u) (k : Nat) : w.frozen? ⟨g, k, none⟩ = false := by
  have e := h.len
  subst e
  obtain ⟨p, c, e, _⟩ := h.form
  injection e with e1 e2 e3
  subst e3
  exact World.ownsRow.frozenAt h.row k
theorem OwnT.set (h : OwnT w base (.slice (some ⟨g, 0, none⟩) n cap) u) (k : Nat) (b : Bool) : OwnT (w.setCell ⟨g, k, none⟩ (.bool b)) base (.slice (some ⟨g, 0, none⟩) n cap) (u.set k b) := by
  have e := h.len
  subst e
  refine OwnT.of_row ?_
  rw [List.length_set, List.map_set]
  exact (World.ownsRow.stored h.row k (.bool b)).1
theorem made_truth (w : World) (n : Nat) (hn : n ≤ 1000) : ∃ w', (Instr.makeSlice 34 (.int .i64 (n : Int)) (.int .i64 (n : Int))).run Try.prog w = .ok (.slice (some ⟨w.heap.size, 0, none⟩) n n) w' ∧ OwnT w' w.heap.size (.slice (some ⟨w.heap.size, 0, none⟩) n n) (List.replicate n false) ∧ w.grownBy w' none := by
  obtain ⟨i, hi, hz⟩ := Option.map_eq_some_iff.1 info_truth
  simp only [Prod.mk.injEq] at hz
  obtain ⟨w', h1, h2, h3⟩ := run_makeSlice_full (P := Try.prog) (w := w) w.heap.size 34 4 i (.bool false) 1 Try.underlying34 hi hz.1 hz.2.1 .i64 .i64 n (by omega) (by rw [hz.2.2]; omega) (by unfold maxLen; omega) (Nat.le_refl _)
  refine ⟨w', h1, OwnT.of_row ?_, h3⟩
  have e2 : (madeCells (Value.cells (.bool false)) (n * 1)).toList = List.replicate (n * 1) (.bool false) := toList_madeCells_one _ _
  rw [e2, Nat.mul_one] at h2
  rw [List.map_replicate, List.length_replicate]
  exact h2
/-- A literal of truths. -/
theorem lit_truth (w : World) (l : List Bool) (t : TypeId) (hm : l.length ≤ 700) : Tru (w.alloc (.cells (l.map Value.bool).toArray t)) (some ⟨w.heap.size, 0, none⟩) l.length l :=
  ⟨Nat.le_refl _, by unfold maxLen; omega, fun _ => ⟨w.heap.size, 0, rfl, by simp, fun j x hj i v hv => by
    have h1 : (w.alloc (.cells (l.map Value.bool).toArray t)).heap[w.heap.size]? = some (.cells (l.map Value.bool).toArray t) := alloc_new w _
    have hi : i = 0 := by
      rcases i with _|i
      · rfl
      · have h2 : ([Value.bool x] : List Value)[i + 1]? = some v := hv
        simp at h2
    subst hi
    have hv : Value.bool x = v := by simpa [layT] using hv
    subst hv
    unfold World.cell?
    rw [h1]
    rw [show 0 + (j * layT.k + 0) = j by show 0 + (j * 1 + 0) = j; omega]
    simp [hj]⟩⟩
theorem eq_of_truth {a b : List Bool} (hl : a.length = b.length) (h : ∀ j : Nat, j < a.length → a[j]? = b[j]?) : a = b := by
  refine List.ext_getElem? fun j => ?_
  by_cases hj : j < a.length
  · exact h j hj
  · rw [List.getElem?_eq_none (by omega), List.getElem?_eq_none (by omega)]

end Go.Proofs.Ytedhippamfioeaa.Truth
