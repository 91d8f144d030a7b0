/- Package learn: what the laws say of tables, plain mathematics. No statement is proved here. -/
import Derived.Test.YtbgbmchpikdgoaaDoorLearnMath
namespace Go.Proofs.YtbgbmchpikdgoaaDoor.Learn
set_option linter.unusedVariables false

theorem but_append (A B : List E) (a : Int) : but (A ++ B) a = but A a ++ but B a := List.filter_append _ _
/-- The end of a table, behind one more address. -/
theorem suf_hear {A B : List E} (h : Ok (A ++ B)) (a p : Int) : ∃ A', hear (A ++ B) a p = A' ++ cut8 (but B a ++ [(a, p)]) := by
  have hl := app_len h a p
  unfold hear
  rw [but_append, List.append_assoc] at hl ⊢
  generalize but B a ++ [(a, p)] = B0 at hl ⊢
  cases hA : but A a with
  | nil => exact ⟨[], rfl⟩
  | cons x A1 =>
    rw [hA] at hl
    rw [List.cons_append, List.length_cons, List.length_append] at hl
    have hB : cut8 B0 = B0 := by unfold cut8; rw [if_neg (by omega)]
    rw [hB]
    unfold cut8
    split
    · exact ⟨A1, rfl⟩
    · exact ⟨x :: A1, rfl⟩
/-- The address heard last but one. -/
theorem find_before {l : List E} (h : Ok l) {a b p q : Int} (ha : isA a) (hb : isA b) (hp : isP p) (hq : isP q) (hne : a ≠ b) : find (hear (hear l a p) b q) a = p := by
  have h1 := hear_ok h ha hp
  obtain ⟨A1, e1⟩ := suf_hear (A := l) (B := []) (by rw [List.append_nil]; exact h) a p
  rw [List.append_nil] at e1
  have e1 : hear l a p = A1 ++ [(a, p)] := e1
  rw [e1] at h1 ⊢
  have h2 := hear_ok h1 hb hq
  obtain ⟨A2, e2⟩ := suf_hear h1 b q
  have e3 : cut8 (but [(a, p)] b ++ [(b, q)]) = [(a, p), (b, q)] := by
    have : but [(a, p)] b = [(a, p)] := by simp [but, hne]
    rw [this]; rfl
  rw [e3] at e2
  rw [e2] at h2 ⊢
  exact find_mem h2.nd (e := (a, p)) (by simp)
theorem out_here {l : List E} {t p : Int} (h : find l t = p) : out l t p = [] := by unfold out; rw [if_pos h]
theorem out_flood {l : List E} {t p : Int} (h : find l t = -1) (hp : isP p) : out l t p = others p := by
  unfold out
  rw [if_neg (by rw [h]; have := hp.1; omega), if_pos h]
theorem out_one {l : List E} {t p q : Int} (h : find l t = q) (hq : q ≠ -1) (hne : q ≠ p) : out l t p = [q] := by
  unfold out
  rw [h, if_neg hne, if_neg hq]
theorem find_ne {l : List E} (h : Ok l) {a : Int} (ha : find l a ≠ -1) : isP (find l a) := by
  rcases find_rng h a with h1 | h1
  · exact absurd h1 ha
  · exact h1.2
/-- Flooded: who was unknown is. -/
theorem flood_new {l : List E} (h : Ok l) {a b p : Int} (hne : a ≠ b) (hb : find l b = -1) : find (hear l a p) b = -1 := by
  rcases find_other h (p := p) hne with h1 | h1
  · exact h1
  · exact h1.trans hb

theorem filter_two (l : List E) {P Q R : E → Bool} (hP : ∀ e, P e = true → R e = true) (hQ : ∀ e, Q e = true → R e = true) (hd : ∀ e, P e = true → Q e = true → False) : (l.filter P).length + (l.filter Q).length ≤ (l.filter R).length := by
  induction l with
  | nil => simp
  | cons e l ih =>
    simp only [List.filter_cons]
    cases hp : P e <;> cases hq : Q e
    · cases hr : R e <;> simp <;> omega
    · rw [hQ e hq]; simp; omega
    · rw [hP e hp]; simp; omega
    · exact (hd e hp hq).elim
/-- How many of the first k addresses are at a port. -/
def cnt (l : List E) (p : Int) : Nat → Nat
  | 0 => 0
  | k + 1 => if find l (k : Int) = p then cnt l p k + 1 else cnt l p k
theorem cnt_yes {l : List E} {p : Int} {k : Nat} (h : find l (k : Int) = p) : cnt l p (k + 1) = cnt l p k + 1 := by rw [cnt, if_pos h]
theorem cnt_no {l : List E} {p : Int} {k : Nat} (h : find l (k : Int) ≠ p) : cnt l p (k + 1) = cnt l p k := by rw [cnt, if_neg h]
theorem cnt_le (l : List E) (p : Int) (k : Nat) : cnt l p k ≤ k := by
  induction k with
  | zero => exact Nat.le_refl _
  | succ k ih => rw [cnt]; split <;> omega
theorem cnt_filter (l : List E) {p : Int} (hp : p ≠ -1) (k : Nat) : cnt l p k ≤ (l.filter fun e => (e.2 == p) && decide (e.1 < (k : Int))).length := by
  induction k with
  | zero => exact Nat.zero_le _
  | succ k ih =>
    have h2 := filter_two l (P := fun e => (e.2 == p) && decide (e.1 < (k : Int))) (Q := fun e => (e.2 == p) && (e.1 == (k : Int))) (R := fun e => (e.2 == p) && decide (e.1 < ((k + 1 : Nat) : Int)))
      (fun e he => by simp only [Bool.and_eq_true, beq_iff_eq, decide_eq_true_eq] at he ⊢; exact ⟨he.1, by omega⟩)
      (fun e he => by simp only [Bool.and_eq_true, beq_iff_eq, decide_eq_true_eq] at he ⊢; exact ⟨he.1, by omega⟩)
      (fun e h1 h2 => by simp only [Bool.and_eq_true, beq_iff_eq, decide_eq_true_eq] at h1 h2; omega)
    rw [cnt]
    split
    · rename_i hf
      have hm : ((k : Int), p) ∈ l := by
        rcases find_cases l (k : Int) with ⟨h, _⟩ | h
        · exact absurd (hf.symm.trans h) hp
        · rwa [hf] at h
      have hm2 : ((k : Int), p) ∈ l.filter fun e => (e.2 == p) && (e.1 == (k : Int)) := List.mem_filter.2 ⟨hm, by simp⟩
      have := List.length_pos_of_mem hm2
      omega
    · omega
/-- .. are no more than leave when it is down. -/
theorem cnt_down (l : List E) {p : Int} (hp : p ≠ -1) (k : Nat) : cnt l p k + (down l p).length ≤ l.length := by
  have h1 := cnt_filter l hp k
  have h2 := filter_two l (P := fun e => (e.2 == p) && decide (e.1 < (k : Int))) (Q := fun e => !(e.2 == p)) (R := fun _ => true) (fun _ _ => rfl) (fun _ _ => rfl) (fun e a b => by
    simp only [Bool.and_eq_true, beq_iff_eq, Bool.not_eq_true', beq_eq_false_iff_ne] at a b
    exact b a.1)
  have h3 : (l.filter fun _ => true) = l := by simp
  rw [h3] at h2
  have h4 : down l p = l.filter fun e => !(e.2 == p) := rfl
  rw [h4]
  omega
end Go.Proofs.YtbgbmchpikdgoaaDoor.Learn
