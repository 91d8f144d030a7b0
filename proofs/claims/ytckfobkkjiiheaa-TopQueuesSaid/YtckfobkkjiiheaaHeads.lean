/- Rows of numbers by their headers: appended as they come, written in place. General. No statement is proved here. -/
import Derived.Test.YtckfobkkjiiheaaCells
import Derived.Test.YtckfobkkjiiheaaRows0
namespace Go.Proofs.Ytckfobkkjiiheaa.Heads
open Go.ChangeShapes Go.WideShapes Go.ChangeAt Go.RowKit Go.Proofs.Ytckfobkkjiiheaa.Kit Go.Proofs.Ytckfobkkjiiheaa.App Go.Proofs.Ytckfobkkjiiheaa.Cells
set_option linter.unusedVariables false
set_option maxRecDepth 20000

/-- The header of a row. -/
structure Hd where
  q : Option Addr
  n : Nat
  c : Nat
instance : Inhabited Hd := ⟨⟨none, 0, 0⟩⟩
def layH : Lay Hd := ⟨fun x => [.slice x.q x.n x.c], 1, by decide, fun _ => rfl, fun x v hv => by
  rw [List.mem_singleton.1 hv]; rfl⟩
theorem tyH : Ty layH 35 22 24 := ⟨Try.underlying35, by
  have h : (Try.prog.info? 22).map (fun i => (i.zero, i.size, i.bytes)) = some (some (.slice none 0 0), 1, 24) := by kernel_rfl
  obtain ⟨i, hi, hz⟩ := Option.map_eq_some_iff.1 h
  simp only [Prod.mk.injEq] at hz
  exact ⟨i, _, hi, hz.1, hz.2.1, hz.2.2, rfl⟩, by decide⟩
/-- The headers read as rows. -/
def Reads (w : World) (hs : List Hd) (ls : List (List Int)) : Prop := hs.length = ls.length ∧ ∀ (j : Nat) (x : Hd), hs[j]? = some x → x.n = (ls[j]?.getD []).length ∧ Ints w x.q x.c (ls[j]?.getD [])
theorem Reads.below {w w' : World} {hs : List Hd} {ls : List (List Int)} (h : Reads w hs ls) (hb : Below w.heap.size w w') : Reads w' hs ls :=
  ⟨h.1, fun j x hx => ⟨(h.2 j x hx).1, (h.2 j x hx).2.below hb⟩⟩
theorem heads_of {w : World} {p : Option Addr} {cap : Nat} {ls : List (List Int)} (h : RowsI w p cap ls) : ∃ hs, CI layH w p cap hs ∧ Reads w hs ls := by
  by_cases h0 : 0 < ls.length
  · obtain ⟨b, off, rfl, hb, hc⟩ := h.2.2 h0
    have hex : ∀ j : Nat, ∃ x : Hd, j < ls.length → w.cell? ⟨b, off + j, none⟩ = some (.slice x.q x.n x.c) ∧ x.n = (ls[j]?.getD []).length ∧ Ints w x.q x.c (ls[j]?.getD []) := fun j => by
      by_cases hj : j < ls.length
      · obtain ⟨q, c, h1, h2⟩ := hc j hj
        exact ⟨⟨q, _, c⟩, fun _ => ⟨h1, rfl, h2⟩⟩
      · exact ⟨⟨none, 0, 0⟩, fun h => absurd h hj⟩
    refine ⟨(List.range ls.length).map fun j => Classical.choose (hex j), ⟨by simpa using h.1, h.2.1, fun _ => ⟨b, off, rfl, hb, fun j x hj i v hv => ?_⟩⟩, by simp, fun j x hj => ?_⟩
    · have hjl : j < ls.length := by
        have := (List.getElem?_eq_some_iff.1 hj).1
        simpa using this
      rw [List.getElem?_map, List.getElem?_range hjl] at hj
      injection hj with hj
      have hx := (Classical.choose_spec (hex j) hjl).1
      rcases i with _|i
      · injection hv with hv
        rw [← hv, ← hj, ← hx]
        show w.cell? ⟨b, off + (j * 1 + 0), none⟩ = _
        rw [Nat.mul_one, Nat.add_zero]
      · simp [layH] at hv
    · have hjl : j < ls.length := by
        have := (List.getElem?_eq_some_iff.1 hj).1
        simpa using this
      rw [List.getElem?_map, List.getElem?_range hjl] at hj
      injection hj with hj
      rw [← hj]
      exact (Classical.choose_spec (hex j) hjl).2
  · have : ls = [] := List.eq_nil_of_length_eq_zero (by omega)
    subst this
    exact ⟨[], ⟨Nat.zero_le _, h.2.1, fun h => absurd h (by simp)⟩, rfl, fun j x h => by simp at h⟩
theorem rows_of {w : World} {p : Option Addr} {cap : Nat} {hs : List Hd} {ls : List (List Int)} (h : CI layH w p cap hs) (hr : Reads w hs ls) : RowsI w p cap ls := by
  refine ⟨by rw [← hr.1]; exact h.1, h.2.1, fun h0 => ?_⟩
  obtain ⟨b, off, e, hb, hc⟩ := h.2.2 (by rw [hr.1]; exact h0)
  refine ⟨b, off, e, hb, fun j hj => ?_⟩
  obtain ⟨x, hx⟩ : ∃ x, hs[j]? = some x := ⟨_, List.getElem?_eq_getElem (by rw [hr.1]; exact hj)⟩
  obtain ⟨h1, h2⟩ := hr.2 j x hx
  have h3 := hc j x hx 0 (.slice x.q x.n x.c) rfl
  rw [h1] at h3
  refine ⟨x.q, x.c, ?_, h2⟩
  rw [← h3]
  show _ = w.cell? ⟨b, off + (j * 1 + 0), none⟩
  rw [Nat.mul_one, Nat.add_zero]
theorem Reads.set {w : World} {hs : List Hd} {ls : List (List Int)} (h : Reads w hs ls) (k : Nat) (x : Hd) (l : List Int) (hn : x.n = l.length) (hi : Ints w x.q x.c l) : Reads w (hs.set k x) (ls.set k l) := by
  refine ⟨by rw [List.length_set, List.length_set]; exact h.1, fun j y hj => ?_⟩
  rw [List.getElem?_set] at hj ⊢
  by_cases e : k = j
  · rw [if_pos e] at hj ⊢
    by_cases hk : k < hs.length
    · rw [if_pos hk] at hj
      rw [if_pos (by rw [← h.1]; exact hk)]
      injection hj with hj
      subst hj
      exact ⟨hn, hi⟩
    · rw [if_neg hk] at hj; cases hj
  · rw [if_neg e] at hj ⊢
    exact h.2 j y hj
theorem all_heads (hs : List Hd) : layH.all hs = hs.map fun x => .slice x.q x.n x.c := by
  induction hs with
  | nil => rfl
  | cons x hs ih =>
    have : layH.all (x :: hs) = layH.enc x ++ layH.all hs := rfl
    rw [this, ih]; rfl
theorem heads_set {w : World} {base g n cap : Nat} {hs : List Hd} (h : OC layH 22 w base (.slice (some ⟨g, 0, none⟩) n cap) hs) (k : Nat) (x : Hd) :
    OC layH 22 (w.setCell ⟨g, k, none⟩ (.slice x.q x.n x.c)) base (.slice (some ⟨g, 0, none⟩) n cap) (hs.set k x) := by
  have hn : n = hs.length := by
    rcases h.2 with ⟨e, _⟩ | ⟨g', cap', cur, e, _⟩
    · cases e
    · injection e
  subst hn
  have := (World.ownsRow.stored h k (.slice x.q x.n x.c)).1
  unfold OC
  rw [List.length_set, all_heads, List.map_set, ← all_heads]
  exact this
theorem heads_fz {w : World} {base g n cap : Nat} {hs : List Hd} (h : OC layH 22 w base (.slice (some ⟨g, 0, none⟩) n cap) hs) (k : Nat) : w.frozen? ⟨g, k, none⟩ = false := by
  have hn : n = hs.length := by
    rcases h.2 with ⟨e, _⟩ | ⟨g', cap', cur, e, _⟩
    · cases e
    · injection e
  subst hn
  exact World.ownsRow.frozenAt h k
theorem heads_cell {w : World} {base g n cap : Nat} {hs : List Hd} (h : OC layH 22 w base (.slice (some ⟨g, 0, none⟩) n cap) hs) {k : Nat} {x : Hd} (hk : hs[k]? = some x) : w.cell? ⟨g, k, none⟩ = some (.slice x.q x.n x.c) := by
  obtain ⟨p, c, e, hi⟩ := h.form
  injection e with e1 e2 e3
  subst e1
  obtain ⟨b, off, e, _, hc⟩ := hi.2.2 (by have := (List.getElem?_eq_some_iff.1 hk).1; omega)
  injection e with e
  injection e with e4 e5
  subst e4; subst e5
  have := hc k x hk 0 (.slice x.q x.n x.c) rfl
  rw [← this]
  show _ = w.cell? ⟨g, 0 + (k * 1 + 0), none⟩
  rw [Nat.mul_one, Nat.add_zero, Nat.zero_add]
theorem heads_pos {w : World} {base : Nat} {v : Value} {hs : List Hd} (h : OC layH 22 w base v hs) (h0 : 0 < hs.length) : ∃ g cap, v = .slice (some ⟨g, 0, none⟩) hs.length cap ∧ base ≤ g ∧ g < w.heap.size ∧ hs.length ≤ cap ∧ cap ≤ 9223372036854775807 := by
  have hf := h.lt
  obtain ⟨_, ⟨_, hn⟩ | ⟨g, cap, cur, rfl, hb, hh, hnc, hcm, _⟩⟩ := h
  · omega
  · exact ⟨g, cap, rfl, hb, (hf g rfl).2, hnc, by unfold maxLen at hcm; omega⟩
end Go.Proofs.Ytckfobkkjiiheaa.Heads
