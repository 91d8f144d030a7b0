/- Shortest paths: the way that the first hops show. Mathematics alone. No statement is proved here. -/
import Derived.Test.YtedhippamfioeaaDoorSpfMath
namespace Go.Proofs.YtedhippamfioeaaDoor.Spf
open Go.Proofs.YtedhippamfioeaaDoor.Vector
set_option linter.unusedVariables false

variable {n : Nat} {ls : List Lk} {t : Nat}
/-- The nodes from one to the last, over first hops. -/
inductive Trail (ls : List Lk) (t : Nat) : Nat → List Nat → Prop
  | here : Trail ls t t [t]
  | step {i v : Nat} {l : List Nat} : i ≠ t → hop ls i t = (v : Int) → Trail ls t v l → Trail ls t i (i :: l)
theorem hop_nb (g : Vector.Good n ls) {i v : Nat} (h : hop ls i t = (v : Int)) : ¬ away ls i t ∧ nb ls i t v := by
  by_cases ha : away ls i t
  · rw [hop_none g ha] at h; omega
  · obtain ⟨u, h1, h2, _⟩ := hop_some g ha
    have : u = v := by omega
    subst this
    exact ⟨ha, h2⟩
theorem Trail.near (g : Vector.Good n ls) {i : Nat} {l : List Nat} (h : Trail ls t i l) : ds ls i t ≠ 1000 := by
  cases h with
  | here => rw [ds_self g]; omega
  | step h1 h2 h3 => exact fun e => (hop_nb g h2).1 (.inr e)
theorem Trail.head {i : Nat} {l : List Nat} (h : Trail ls t i l) : ∃ tl, l = i :: tl := by
  cases h with
  | here => exact ⟨[], rfl⟩
  | step h1 h2 h3 => exact ⟨_, rfl⟩
theorem trail_ex (g : Vector.Good n ls) (ht : t < n) : ∀ (k : Nat) (i : Nat), ds ls i t ≤ k → ds ls i t ≠ 1000 → ∃ l, Trail ls t i l := by
  intro k
  induction k with
  | zero =>
    intro i h1 h2
    by_cases e : i = t
    · subst e; exact ⟨_, .here⟩
    · have := ds_pos g e; omega
  | succ k ih =>
    intro i h1 h2
    by_cases e : i = t
    · subst e; exact ⟨_, .here⟩
    · obtain ⟨v, e1, ⟨e2, e3⟩, _⟩ := hop_some g (s := i) (t := t) (fun h => by rcases h with h | h; exact e h; exact h2 h)
      have hc := co_few g e2
      have := ds_top g i t
      obtain ⟨l, hl⟩ := ih v (by omega) (by omega)
      exact ⟨_, .step e e1 hl⟩
theorem Trail.uniq {i : Nat} {l l' : List Nat} (h : Trail ls t i l) (h' : Trail ls t i l') : l = l' := by
  induction h generalizing l' with
  | here =>
    cases h' with
    | here => rfl
    | step e _ _ => exact absurd rfl e
  | @step i v l e e2 _ ih =>
    cases h' with
    | here => exact absurd rfl e
    | @step _ v' l' _ e3 h3 =>
      have : v = v' := by omega
      subst this
      rw [ih h3]
theorem Trail.le (g : Vector.Good n ls) {i : Nat} {l : List Nat} (h : Trail ls t i l) : ∀ x ∈ l, ds ls x t ≤ ds ls i t := by
  induction h with
  | here => intro x hx; rw [List.mem_singleton.1 hx]; exact Int.le_refl _
  | @step i v l e e2 _ ih =>
    intro x hx
    rcases List.mem_cons.1 hx with rfl | hx
    · exact Int.le_refl _
    · have h1 := ih x hx
      obtain ⟨_, h2, h3⟩ := hop_nb g e2
      have := co_few g h2
      omega
theorem Trail.nodup (g : Vector.Good n ls) {i : Nat} {l : List Nat} (h : Trail ls t i l) : l.Nodup := by
  induction h with
  | here => simp
  | @step i v l e e2 h ih =>
    refine List.nodup_cons.2 ⟨fun hm => ?_, ih⟩
    have h1 := h.le g i hm
    obtain ⟨_, h2, h3⟩ := hop_nb g e2
    have := co_few g h2
    omega
theorem Trail.lt (g : Vector.Good n ls) {i : Nat} {l : List Nat} (h : Trail ls t i l) : i < n → ∀ x ∈ l, x < n := by
  induction h with
  | here => intro hi x hx; rw [List.mem_singleton.1 hx]; exact hi
  | @step i v l e e2 _ ih =>
    intro hi x hx
    rcases List.mem_cons.1 hx with rfl | hx
    · exact hi
    · obtain ⟨_, h2, h3⟩ := hop_nb g e2
      exact ih (co_few g h2).2.2.2.1 x hx
theorem Trail.len (g : Vector.Good n ls) {i : Nat} {l : List Nat} (h : Trail ls t i l) (hi : i < n) : 1 ≤ l.length ∧ l.length ≤ n := by
  refine ⟨?_, Vector.nodup_len n l (h.nodup g) (h.lt g hi)⟩
  obtain ⟨tl, rfl⟩ := h.head
  simp
theorem Trail.last {i : Nat} {l : List Nat} (h : Trail ls t i l) : l[l.length - 1]? = some t := by
  induction h with
  | here => rfl
  | @step i v l e e2 h ih =>
    obtain ⟨tl, rfl⟩ := h.head
    simpa using ih
theorem Trail.at (g : Vector.Good n ls) {i : Nat} {l : List Nat} (h : Trail ls t i l) : ∀ (k : Nat), k + 1 < l.length → nb ls (l[k]?.getD 0) t (l[k + 1]?.getD 0) := by
  induction h with
  | here => intro k hk; simp at hk
  | @step i v l e e2 h ih =>
    intro k hk
    obtain ⟨tl, rfl⟩ := h.head
    cases k with
    | zero => exact (hop_nb g e2).2
    | succ k => exact ih k (by simpa using hk)
/-- How long the way is behind so many of its nodes. -/
def gone (ls : List Lk) (l : List Nat) : Nat → Int
  | 0 => 0
  | k + 1 => gone ls l k + co ls (l[k]?.getD 0) (l[k + 1]?.getD 0)
theorem Trail.gone (g : Vector.Good n ls) {i : Nat} {l : List Nat} (h : Trail ls t i l) : ∀ k, k < l.length → gone ls l k + ds ls (l[k]?.getD 0) t = ds ls i t
  | 0, _ => by
    obtain ⟨tl, rfl⟩ := h.head
    show 0 + ds ls i t = ds ls i t
    omega
  | k + 1, hk => by
    have h1 := h.gone g k (by omega)
    have h2 := h.at g k hk
    have h3 := h2.2
    show Spf.gone ls l k + co ls (l[k]?.getD 0) (l[k + 1]?.getD 0) + ds ls (l[k + 1]?.getD 0) t = ds ls i t
    omega
theorem Trail.full (g : Vector.Good n ls) {i : Nat} {l : List Nat} (h : Trail ls t i l) (hi : i < n) : Spf.gone ls l (l.length - 1) = ds ls i t := by
  have hl := (h.len g hi).1
  have h1 := h.gone g (l.length - 1) (by omega)
  rw [h.last] at h1
  have h2 : ds ls ((some t : Option Nat).getD 0) t = 0 := ds_self g t
  omega
theorem Trail.no (g : Vector.Good n ls) {i : Nat} {l : List Nat} (h : Trail ls t i l) {j k : Nat} (hjk : j < k) (hk : k < l.length) : l[j]?.getD 0 ≠ l[k]?.getD 0 := by
  have hd := h.nodup g
  rw [List.getElem?_eq_getElem hk, List.getElem?_eq_getElem (by omega)]
  intro e
  have := (List.getElem_inj hd (h₀ := by omega) (h₁ := hk)).1 e
  omega
/-- What Way answers. -/
def Ways (n : Nat) (ls : List Lk) (s t : Nat) (c : Int) (L : List Nat) : Prop := (c = 5 ∧ ds ls s t = 1000 ∧ s ≠ t ∧ L = []) ∨ (c = 0 ∧ ds ls s t ≠ 1000 ∧ Trail ls t s L)
theorem ways_ex (g : Vector.Good n ls) {s t : Nat} (ht : t < n) : ∃ c L, Ways n ls s t c L := by
  by_cases h : ds ls s t = 1000
  · exact ⟨5, [], .inl ⟨rfl, h, fun e => by subst e; rw [ds_self g] at h; omega, rfl⟩⟩
  · obtain ⟨l, hl⟩ := trail_ex g ht (ds ls s t).toNat s (by have := ds_nat g s t; omega) h
    exact ⟨0, l, .inr ⟨rfl, h, hl⟩⟩
end Go.Proofs.YtedhippamfioeaaDoor.Spf
