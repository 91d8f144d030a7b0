/- A list by choosing the least that is left: its first and its last. No statement is proved here. -/
import Derived.Test.YtlojehakifagbaaDoorAimdMath
namespace Go.Proofs.YtlojehakifagbaaDoor.RiseMath
open Go.Proofs.YtlojehakifagbaaDoor.AimdMath
set_option linter.unusedVariables false

/-- How many are used. -/
def cnt : List Bool → Nat
  | [] => 0
  | b :: u => (if b then 1 else 0) + cnt u
theorem cnt_le : ∀ (u : List Bool), cnt u ≤ u.length
  | [] => Nat.le_refl _
  | b :: u => by have := cnt_le u; cases b <;> simp [cnt] <;> omega
theorem cnt_set : ∀ (u : List Bool) (c : Nat), u[c]? = some false → cnt (u.set c true) = cnt u + 1
  | [], c, h => by simp at h
  | b :: u, 0, h => by
    have : b = false := by simpa using h
    subst this
    simp [cnt]; omega
  | b :: u, c + 1, h => by
    have := cnt_set u c (by simpa using h)
    simp [cnt, this]; omega
theorem cnt_all : ∀ (u : List Bool), (∀ i, i < u.length → u[i]? = some true) → cnt u = u.length
  | [], _ => rfl
  | b :: u, h => by
    have h0 := h 0 (by simp)
    have : b = true := by simpa using h0
    subst this
    have := cnt_all u (fun i hi => by have := h (i + 1) (by simpa using hi); simpa using this)
    simp [cnt, this]; omega
theorem cnt_full : ∀ (u : List Bool), cnt u = u.length → ∀ i, i < u.length → u[i]? = some true
  | [], _, i, hi => by simp at hi
  | b :: u, h, i, hi => by
    have hl := cnt_le u
    cases b with
    | false => simp [cnt] at h; omega
    | true =>
      have h2 : cnt u = u.length := by simp [cnt] at h; omega
      rcases i with _ | i
      · rfl
      · have := cnt_full u h2 i (by simpa using hi); simpa using this
theorem cnt_none : ∀ (u : List Bool), cnt u = 0 → ∀ i, i < u.length → u[i]? = some false
  | [], _, i, hi => by simp at hi
  | b :: u, h, i, hi => by
    cases b with
    | true => simp [cnt] at h
    | false =>
      have h2 : cnt u = 0 := by simp [cnt] at h; omega
      rcases i with _ | i
      · rfl
      · have := cnt_none u h2 i (by simpa using hi); simpa using this
theorem cnt_zero : ∀ (n : Nat), cnt (List.replicate n false) = 0
  | 0 => rfl
  | n + 1 => by rw [List.replicate_succ]; simp [cnt, cnt_zero n]

/-- j are used, r in order. -/
def St (l : List Int) (j : Nat) (r : List Int) (u : List Bool) : Prop :=
  u.length = l.length ∧ r.length = j ∧ cnt u = j ∧ (0 < j → r[0]?.getD 0 = lo l ∧ ∃ z, r[j - 1]?.getD 0 = z ∧ z ∈ l ∧
    (∀ i, i < l.length → u[i]? = some true → l[i]?.getD 0 ≤ z) ∧ (∀ i, i < l.length → u[i]? = some false → z ≤ l[i]?.getD 0))
/-- The least that is left among the first i, or none. -/
def Bst (l : List Int) (u : List Bool) (i : Nat) (b : Int) : Prop :=
  (b = -1 ∧ ∀ j, j < i → u[j]? = some true) ∨ ∃ c : Nat, b = (c : Int) ∧ c < i ∧ u[c]? = some false ∧ ∀ j, j < i → u[j]? = some false → l[c]?.getD 0 ≤ l[j]?.getD 0
variable {l : List Int} {j i n c : Nat} {r : List Int} {u : List Bool} {b : Int}
theorem St_zero : St l 0 [] (List.replicate l.length false) := ⟨List.length_replicate, rfl, cnt_zero _, fun h => absurd h (Nat.lt_irrefl 0)⟩
theorem Bst_zero : Bst l u 0 (-1) := .inl ⟨rfl, fun j h => absurd h (Nat.not_lt_zero _)⟩
theorem Bst_used (h : Bst l u i b) (hu : u[i]? = some true) : Bst l u (i + 1) b := by
  rcases h with ⟨h1, h2⟩ | ⟨c, h1, h2, h3, h4⟩
  · refine .inl ⟨h1, fun j hj => ?_⟩
    by_cases e : j = i
    · rw [e]; exact hu
    · exact h2 j (by omega)
  · refine .inr ⟨c, h1, by omega, h3, fun j hj hf => ?_⟩
    by_cases e : j = i
    · rw [e, hu] at hf; cases hf
    · exact h4 j (by omega) hf
theorem Bst_first (h : ∀ j, j < i → u[j]? = some true) (hu : u[i]? = some false) : Bst l u (i + 1) (i : Int) :=
  .inr ⟨i, rfl, Nat.lt_succ_self i, hu, fun j hj hf => by
    by_cases e : j = i
    · rw [e]; exact Int.le_refl _
    · rw [h j (by omega)] at hf; cases hf⟩
theorem Bst_less (h4 : ∀ j, j < i → u[j]? = some false → l[c]?.getD 0 ≤ l[j]?.getD 0) (hu : u[i]? = some false) (hl : l[i]?.getD 0 < l[c]?.getD 0) : Bst l u (i + 1) (i : Int) :=
  .inr ⟨i, rfl, Nat.lt_succ_self i, hu, fun j hj hf => by
    by_cases e : j = i
    · rw [e]; exact Int.le_refl _
    · have := h4 j (by omega) hf; omega⟩
theorem Bst_not (hc : c < i) (h3 : u[c]? = some false) (h4 : ∀ j, j < i → u[j]? = some false → l[c]?.getD 0 ≤ l[j]?.getD 0) (hl : ¬ l[i]?.getD 0 < l[c]?.getD 0) : Bst l u (i + 1) (c : Int) :=
  .inr ⟨c, rfl, by omega, h3, fun j hj hf => by
    by_cases e : j = i
    · rw [e]; omega
    · exact h4 j (by omega) hf⟩
theorem St_next (h : St l j r u) (hj : j < l.length) (hb : Bst l u l.length b) : ∃ c : Nat, b = (c : Int) ∧ c < l.length ∧ u[c]? = some false ∧ St l (j + 1) (r ++ [l[c]?.getD 0]) (u.set c true) := by
  obtain ⟨h1, h2, h3, h4⟩ := h
  rcases hb with ⟨_, hb⟩ | ⟨c, e, hc, hf, hl⟩
  · have := cnt_all u (fun i hi => hb i (by omega))
    omega
  · refine ⟨c, e, hc, hf, by rw [List.length_set]; exact h1, by rw [List.length_append, h2]; rfl, by rw [cnt_set u c hf, h3], fun _ => ⟨?_, l[c]?.getD 0, ?_, ?_, fun i hi ht => ?_, fun i hi hff => ?_⟩⟩
    · rcases Nat.eq_zero_or_pos j with h0 | h0
      · have hr : r = [] := List.eq_nil_of_length_eq_zero (by omega)
        subst hr
        show l[c]?.getD 0 = _
        refine lo_only (by rw [List.getElem?_eq_getElem hc]; exact List.getElem_mem hc) fun y hy => ?_
        obtain ⟨i, hi, rfl⟩ := List.getElem_of_mem hy
        have := hl i hi (cnt_none u (by omega) i (by omega))
        rwa [List.getElem?_eq_getElem hi] at this
      · rw [List.getElem?_append_left (by omega)]
        exact (h4 h0).1
    · rw [Nat.add_sub_cancel, List.getElem?_append_right (by omega), h2, Nat.sub_self]; rfl
    · rw [List.getElem?_eq_getElem hc]; exact List.getElem_mem hc
    · by_cases e : i = c
      · rw [e]; exact Int.le_refl _
      · rw [List.getElem?_set, if_neg (fun h => e h.symm)] at ht
        rcases Nat.eq_zero_or_pos j with h0 | h0
        · rw [cnt_none u (by omega) i (by omega)] at ht; cases ht
        · obtain ⟨_, z, _, _, z2, z3⟩ := h4 h0
          have := z2 i hi ht
          have := z3 c hc hf
          omega
    · by_cases e : i = c
      · rw [e, List.getElem?_set, if_pos rfl, if_pos (by omega)] at hff; cases hff
      · rw [List.getElem?_set, if_neg (fun h => e h.symm)] at hff
        exact hl i hi hff
theorem St_end (h : St l l.length r u) (h0 : 0 < l.length) : r.length = l.length ∧ r[0]?.getD 0 = lo l ∧ r[l.length - 1]?.getD 0 = hi l := by
  obtain ⟨h1, h2, h3, h4⟩ := h
  obtain ⟨h5, z, h6, h7, h8, _⟩ := h4 h0
  refine ⟨h2, h5, ?_⟩
  rw [h6]
  refine hi_only h7 fun y hy => ?_
  obtain ⟨i, hi, rfl⟩ := List.getElem_of_mem hy
  have := h8 i hi (cnt_full u (by omega) i (by omega))
  rwa [List.getElem?_eq_getElem hi] at this
end Go.Proofs.YtlojehakifagbaaDoor.RiseMath
