/- Deficit round robin: what is wrong with some queues. No statement is proved here. -/
import Derived.Test.YtckfobkkjiiheaaDrrMath
namespace Go.Proofs.Ytckfobkkjiiheaa.Drr
set_option linter.unusedVariables false

def fit1 (x : Int) : Bool := decide (1 ≤ x) && decide (x ≤ 20)
def fits (l : List Int) : Bool := l.all fit1
def bad1 (l : List Int) : Int := if 8 < l.length then 4 else if fits l = true then 0 else 1
def bads : List (List Int) → Int
  | [] => 0
  | l :: ls => if bad1 l = 0 then bads ls else bad1 l
def code (qs : List (List Int)) : Int := if 5 < qs.length then 4 else bads qs
theorem fit1_iff {x : Int} : fit1 x = true ↔ 1 ≤ x ∧ x ≤ 20 := by simp [fit1]
theorem fit1_not {x : Int} : fit1 x = false ↔ ¬ (1 ≤ x ∧ x ≤ 20) := by rw [← Bool.not_eq_true, fit1_iff]
theorem fits_iff {l : List Int} : fits l = true ↔ ∀ x ∈ l, 1 ≤ x ∧ x ≤ 20 := by simp [fits, fit1]
theorem fits_of {l : List Int} (H : ∀ k, k < l.length → fit1 (l[k]?.getD 0) = true) : fits l = true := by
  refine fits_iff.2 fun x hx => ?_
  obtain ⟨k, hk, rfl⟩ := List.getElem_of_mem hx
  have := H k hk
  rw [List.getElem?_eq_getElem hk] at this
  exact fit1_iff.1 this
theorem fits_false {l : List Int} {k : Nat} (hk : k < l.length) (H : fit1 (l[k]?.getD 0) = false) : fits l = false := by
  cases hb : fits l with
  | false => rfl
  | true =>
    have := fits_iff.1 hb _ (List.getElem_mem hk)
    rw [List.getElem?_eq_getElem hk] at H
    exact absurd this (fit1_not.1 H)
theorem bad1_zero {l : List Int} : bad1 l = 0 ↔ fine l := by
  unfold bad1 fine
  rw [← fits_iff]
  by_cases h : 8 < l.length
  · rw [if_pos h]; constructor
    · intro h1; omega
    · intro h1; omega
  · rw [if_neg h]
    cases hf : fits l <;> simp <;> omega
theorem bads_zero : ∀ {qs : List (List Int)}, bads qs = 0 ↔ ∀ l ∈ qs, fine l
  | [] => by simp [bads]
  | l :: ls => by
    unfold bads
    rw [List.forall_mem_cons, ← bads_zero, ← bad1_zero]
    by_cases h : bad1 l = 0
    · rw [if_pos h]; simp [h]
    · rw [if_neg h]; simp [h]
theorem code_zero {qs : List (List Int)} : code qs = 0 ↔ Good qs := by
  unfold code Good
  rw [← bads_zero]
  by_cases h : 5 < qs.length
  · rw [if_pos h]; constructor
    · intro h1; omega
    · intro h1; omega
  · rw [if_neg h]
    constructor
    · intro h1; exact ⟨by omega, h1⟩
    · intro h1; exact h1.2
theorem bads_at : ∀ (qs : List (List Int)) (k : Nat), k < qs.length → (∀ j, j < k → bad1 (row qs j) = 0) → bad1 (row qs k) ≠ 0 → bads qs = bad1 (row qs k)
  | [], k, h, _, _ => by simp at h
  | l :: ls, 0, h, hz, hk => by
    have : row (l :: ls) 0 = l := rfl
    rw [this] at hk ⊢
    unfold bads; rw [if_neg hk]
  | l :: ls, k + 1, h, hz, hk => by
    have h0 := hz 0 (by omega)
    have e0 : row (l :: ls) 0 = l := rfl
    have e1 : row (l :: ls) (k + 1) = row ls k := rfl
    rw [e0] at h0
    rw [e1] at hk ⊢
    unfold bads
    rw [if_pos h0]
    exact bads_at ls k (by simpa using h) (fun j hj => by have := hz (j + 1) (by omega); exact this) hk
theorem bads_none {qs : List (List Int)} (h : ∀ j, j < qs.length → bad1 (row qs j) = 0) : bads qs = 0 := by
  refine bads_zero.2 fun l hl => ?_
  obtain ⟨k, hk, rfl⟩ := List.getElem_of_mem hl
  have := h k hk
  unfold row at this
  rw [List.getElem?_eq_getElem hk] at this
  exact bad1_zero.1 this
theorem bad1_cases (l : List Int) : bad1 l = 0 ∨ bad1 l = 1 ∨ bad1 l = 4 := by
  unfold bad1
  split
  · exact .inr (.inr rfl)
  · split
    · exact .inl rfl
    · exact .inr (.inl rfl)
theorem bads_cases : ∀ qs : List (List Int), bads qs = 0 ∨ bads qs = 1 ∨ bads qs = 4
  | [] => .inl rfl
  | l :: ls => by
    unfold bads
    split
    · exact bads_cases ls
    · exact bad1_cases l
theorem code_cases (qs : List (List Int)) : code qs = 0 ∨ code qs = 1 ∨ code qs = 4 := by
  unfold code
  split
  · exact .inr (.inr rfl)
  · exact bads_cases qs
end Go.Proofs.Ytckfobkkjiiheaa.Drr
