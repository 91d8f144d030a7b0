/- Rows of numbers, empty ones too, built one by one: a slice of the call's own that holds their headers, and the rows in blocks of their own. General. No statement is proved here. -/
import Derived.Test.YtckfobkkjiiheaaHeads
import Derived.Test.YtckfobkkjiiheaaErr
namespace Go.Proofs.Ytckfobkkjiiheaa.Heads
open Go.ChangeShapes Go.WideShapes Go.ChangeAt Go.RowKit Go.Proofs.Ytckfobkkjiiheaa.Kit Go.Proofs.Ytckfobkkjiiheaa.App Go.Proofs.Ytckfobkkjiiheaa.Cells Go.Proofs.Ytckfobkkjiiheaa.Err
set_option linter.unusedVariables false
set_option maxRecDepth 20000

structure Grow (w0 w : World) (v : Value) (hs : List Hd) (ls : List (List Int)) : Prop where
  bel : Below w0.heap.size w0 w
  own : OC layH 22 w w0.heap.size v hs
  rd : Reads w hs ls
  sep : ∀ x ∈ hs, ∀ a, x.q = some a → a.block < w.heap.size ∧ v.ownBlock ≠ some a.block
variable {w0 w w' : World} {v v' : Value} {hs : List Hd} {ls : List (List Int)}
theorem Grow.nil (w0 w : World) (h : Below w0.heap.size w0 w) : Grow w0 w (.slice none 0 0) [] [] := ⟨h, OC.nil _ _ _ _, ⟨rfl, fun j x hj => by simp at hj⟩, fun x hx => by cases hx⟩
theorem Grow.below (h : Grow w0 w v hs ls) (hb : Below w.heap.size w w') : Grow w0 w' v hs ls :=
  ⟨bcall h.bel hb, h.own.below hb, h.rd.below hb, fun x hx a ha => ⟨Nat.lt_of_lt_of_le (h.sep x hx a ha).1 hb.size, (h.sep x hx a ha).2⟩⟩
/-- One row more. -/
theorem Grow.app {x : Hd} {l : List Int} (h : Grow w0 w v hs ls) (hn : x.n = l.length) (hi : Ints w x.q x.c l) (hx : ∀ a, x.q = some a → a.block < w.heap.size ∧ v.ownBlock ≠ some a.block)
    (hown : OC layH 22 w' w0.heap.size v' (hs ++ [x])) (hg : w.grownBy w' v.ownBlock) (hat : v'.ownBlock = v.ownBlock ∨ v'.ownBlock = some w.heap.size) : Grow w0 w' v' (hs ++ [x]) (ls ++ [l]) := by
  have keep : ∀ {y : Hd} {m : List Int}, (∀ a, y.q = some a → a.block < w.heap.size ∧ v.ownBlock ≠ some a.block) → Ints w y.q y.c m → Ints w' y.q y.c m := fun {y m} hy hm =>
    hm.keep hg.size (fun a e hlt => hg.block a.block hlt (fun e2 => (hy a e).2 e2.symm))
  refine ⟨below_appC h.bel h.own hg h.bel.size, hown, ⟨by rw [List.length_append, List.length_append, h.rd.1]; rfl, fun j y hj => ?_⟩, fun y hy a ha => ?_⟩
  · by_cases h1 : j < hs.length
    · rw [List.getElem?_append_left h1] at hj
      rw [List.getElem?_append_left (by rw [← h.rd.1]; exact h1)]
      obtain ⟨e1, e2⟩ := h.rd.2 j y hj
      exact ⟨e1, keep (h.sep y (List.mem_of_getElem? hj)) e2⟩
    · rw [List.getElem?_append_right (by omega)] at hj
      have hj0 : j - hs.length = 0 := by
        rcases Nat.eq_zero_or_pos (j - hs.length) with e | e
        · exact e
        · rw [List.getElem?_eq_none (by simp; omega)] at hj; cases hj
      rw [hj0] at hj
      obtain rfl : x = y := by simpa using hj
      rw [List.getElem?_append_right (by rw [← h.rd.1]; omega), ← h.rd.1, hj0]
      exact ⟨hn, keep hx hi⟩
  · have h2 : a.block < w.heap.size ∧ v.ownBlock ≠ some a.block := by
      rcases List.mem_append.1 hy with h3 | h3
      · exact h.sep y h3 a ha
      · obtain rfl := List.mem_singleton.1 h3
        exact hx a ha
    refine ⟨Nat.lt_of_lt_of_le h2.1 hg.size, fun e => ?_⟩
    rcases hat with h3 | h3
    · rw [h3] at e; exact h2.2 e
    · rw [h3] at e; injection e with e; omega
theorem Grow.form (h : Grow w0 w v hs ls) : ∃ p cap, v = .slice p ls.length cap ∧ RowsI w p cap ls := by
  obtain ⟨p, cap, e, hc⟩ := h.own.form
  rw [h.rd.1] at e
  exact ⟨p, cap, e, rows_of hc h.rd⟩
end Go.Proofs.Ytckfobkkjiiheaa.Heads
