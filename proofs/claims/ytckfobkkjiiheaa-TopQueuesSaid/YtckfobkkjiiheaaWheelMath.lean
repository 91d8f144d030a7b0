/- The wheel as numbers: of each timer the ticks left, the slots of the wheel, and how both move. No statement is proved here. -/
import Derived.Test.YtckfobkkjiiheaaBase
namespace Go.Proofs.Ytckfobkkjiiheaa.WheelMath
set_option linter.unusedVariables false
set_option maxRecDepth 20000

/-- A map's word on a key turned. -/
def updZ {α : Type} (h : Int → α) (k : Int) (v : α) : Int → α := fun j => if j = k then v else h j
theorem updZ_same {α : Type} (h : Int → α) (k : Int) (v : α) : updZ h k v k = v := by unfold updZ; rw [if_pos rfl]
theorem updZ_other {α : Type} (h : Int → α) {k j : Int} (v : α) (hj : j ≠ k) : updZ h k v j = h j := by unfold updZ; rw [if_neg hj]
def updQ {α : Type} (h : Nat → α) (k : Nat) (v : α) : Nat → α := fun j => if j = k then v else h j
theorem updQ_same {α : Type} (h : Nat → α) (k : Nat) (v : α) : updQ h k v k = v := by unfold updQ; rw [if_pos rfl]
theorem updQ_other {α : Type} (h : Nat → α) {k j : Nat} (v : α) (hj : j ≠ k) : updQ h k v j = h j := by unfold updQ; rw [if_neg hj]

/-- The slots q, the time now and the map h are those of the ticks left. -/
structure Inv (left : Int → Nat) (now : Nat) (q : Nat → List Int) (h : Int → Option Int) : Prop where
  lt : now < 400
  rng : ∀ i, left i ≠ 0 → 0 ≤ i ∧ i < 20 ∧ left i ≤ 400
  key : ∀ i, h i = if left i = 0 then none else some (((now + left i) % 400 : Nat) : Int)
  nd : ∀ s, s < 400 → (q s).Nodup
  mem : ∀ s, s < 400 → ∀ i, i ∈ q s ↔ left i ≠ 0 ∧ (now + left i) % 400 = s
theorem inv_new : Inv (fun _ => 0) 0 (fun _ => []) (fun _ => none) :=
  ⟨by omega, fun i h => absurd rfl h, fun i => by simp, fun s _ => by simp, fun s _ i => by simp⟩
variable {left : Int → Nat} {now : Nat} {q : Nat → List Int} {h : Int → Option Int}
theorem inv_start (H : Inv left now q h) {i : Int} {a s : Nat} (h0 : 0 ≤ i) (h20 : i < 20) (hl : left i = 0) (ha : 1 ≤ a) (ha2 : a ≤ 400) (hs : (now + a) % 400 = s) :
    Inv (updZ left i a) now (updQ q s (q s ++ [i])) (updZ h i (some (s : Int))) := by
  have hs4 : s < 400 := by omega
  have hni : i ∉ q s := fun hm => by have := ((H.mem s hs4 i).1 hm).1; omega
  refine ⟨H.lt, fun j hj => ?_, fun j => ?_, fun t ht => ?_, fun t ht j => ?_⟩
  · by_cases e : j = i
    · subst e; rw [updZ_same]; omega
    · rw [updZ_other _ _ e] at hj ⊢; exact H.rng j hj
  · by_cases e : j = i
    · subst e; rw [updZ_same, updZ_same, if_neg (by omega), hs]
    · rw [updZ_other _ _ e, updZ_other _ _ e]; exact H.key j
  · by_cases e : t = s
    · subst e
      rw [updQ_same, List.nodup_append]
      exact ⟨H.nd t ht, by simp, fun a h1 b h2 => by rintro rfl; simp at h2; subst h2; exact hni h1⟩
    · rw [updQ_other _ _ e]; exact H.nd t ht
  · by_cases e : j = i
    · subst e
      rw [updZ_same]
      by_cases e2 : t = s
      · subst e2
        rw [updQ_same]; simp; omega
      · rw [updQ_other _ _ e2]
        have := H.mem t ht j
        rw [this]; omega
    · rw [updZ_other _ _ e]
      by_cases e2 : t = s
      · subst e2
        rw [updQ_same, ← H.mem t ht j]; simp [e]
      · rw [updQ_other _ _ e2]; exact H.mem t ht j
theorem inv_stop (H : Inv left now q h) {i : Int} {s : Nat} (hl : left i ≠ 0) (hs : (now + left i) % 400 = s) :
    Inv (updZ left i 0) now (updQ q s ((q s).filter (fun x => !(x == i)))) (updZ h i none) := by
  have hs4 : s < 400 := by omega
  refine ⟨H.lt, fun j hj => ?_, fun j => ?_, fun t ht => ?_, fun t ht j => ?_⟩
  · by_cases e : j = i
    · subst e; rw [updZ_same] at hj; exact absurd rfl hj
    · rw [updZ_other _ _ e] at hj ⊢; exact H.rng j hj
  · by_cases e : j = i
    · subst e; rw [updZ_same, updZ_same, if_pos rfl]
    · rw [updZ_other _ _ e, updZ_other _ _ e]; exact H.key j
  · by_cases e : t = s
    · subst e
      rw [updQ_same]
      exact (H.nd t ht).filter _
    · rw [updQ_other _ _ e]; exact H.nd t ht
  · by_cases e : j = i
    · subst e
      rw [updZ_same]
      by_cases e2 : t = s
      · subst e2
        rw [updQ_same]; simp
      · rw [updQ_other _ _ e2]
        have := H.mem t ht j
        rw [this]; omega
    · rw [updZ_other _ _ e]
      by_cases e2 : t = s
      · subst e2
        rw [updQ_same, ← H.mem t ht j]; simp [e]
      · rw [updQ_other _ _ e2]; exact H.mem t ht j
/-- One tick less. -/
def dec (left : Int → Nat) : Int → Nat := fun i => left i - 1
theorem due_one (H : Inv left now q h) (i : Int) : i ∈ q ((now + 1) % 400) ↔ left i = 1 := by
  have h1 := H.lt
  rw [H.mem _ (by omega) i]
  constructor
  · rintro ⟨h2, h3⟩
    have := H.rng i h2
    omega
  · intro h2; rw [h2]; omega
theorem inv_tick (H : Inv left now q h) {n' : Nat} (hn : (now + 1) % 400 = n') {g : Int → Option Int} (hg : ∀ i, g i = if i ∈ q n' then none else h i) :
    Inv (dec left) n' (updQ q n' []) g := by
  have h1 := H.lt
  have hd := due_one H
  rw [hn] at hd
  refine ⟨by omega, fun j hj => ?_, fun j => ?_, fun t ht => ?_, fun t ht j => ?_⟩
  · unfold dec at hj ⊢
    have := H.rng j (by omega)
    omega
  · rw [hg, H.key]
    unfold dec
    by_cases e : j ∈ q n'
    · rw [if_pos e, if_pos (by have := (hd j).1 e; omega)]
    · have : left j ≠ 1 := fun h => e ((hd j).2 h)
      rw [if_neg e]
      by_cases e2 : left j = 0
      · rw [if_pos e2, if_pos (by omega)]
      · have := H.rng j e2
        rw [if_neg e2, if_neg (by omega)]
        have e3 : (now + left j) % 400 = (n' + (left j - 1)) % 400 := by omega
        rw [e3]
  · by_cases e : t = n'
    · subst e; rw [updQ_same]; simp
    · rw [updQ_other _ _ e]; exact H.nd t ht
  · unfold dec
    by_cases e : t = n'
    · subst e
      rw [updQ_same]
      simp
      intro h2
      have := H.rng j (by omega)
      omega
    · rw [updQ_other _ _ e, H.mem t ht j]
      by_cases e2 : left j = 0
      · simp [e2]
      · have := H.rng j e2
        omega

/-- The timers that expire at the next tick, in increasing order. -/
def uptoL (left : Int → Nat) : Nat → List Int
  | 0 => []
  | k + 1 => uptoL left k ++ if left (k : Int) = 1 then [(k : Int)] else []
def dueL (left : Int → Nat) : List Int := uptoL left 20
theorem mem_uptoL (left : Int → Nat) : ∀ (k : Nat) (i : Int), i ∈ uptoL left k ↔ 0 ≤ i ∧ i < k ∧ left i = 1
  | 0, i => by simp [uptoL]; omega
  | k + 1, i => by
    rw [uptoL, List.mem_append, mem_uptoL left k i]
    by_cases e : left (k : Int) = 1
    · rw [if_pos e]
      simp only [List.mem_singleton]
      constructor
      · rintro (⟨h1, h2, h3⟩ | h1)
        · exact ⟨h1, by omega, h3⟩
        · subst h1; exact ⟨by omega, by omega, e⟩
      · rintro ⟨h1, h2, h3⟩
        by_cases e2 : i = (k : Int)
        · exact .inr e2
        · exact .inl ⟨h1, by omega, h3⟩
    · rw [if_neg e]
      simp only [List.not_mem_nil, or_false]
      constructor
      · rintro ⟨h1, h2, h3⟩; exact ⟨h1, by omega, h3⟩
      · rintro ⟨h1, h2, h3⟩
        refine ⟨h1, ?_, h3⟩
        have : i ≠ (k : Int) := by rintro rfl; exact e h3
        omega
theorem len_upto (left : Int → Nat) : ∀ k, (uptoL left k).length ≤ k
  | 0 => by simp [uptoL]
  | k + 1 => by
    have := len_upto left k
    rw [uptoL, List.length_append]
    split <;> simp <;> omega
theorem sorted_upto (left : Int → Nat) : ∀ k, (uptoL left k).Pairwise (· < ·)
  | 0 => by simp [uptoL]
  | k + 1 => by
    rw [uptoL, List.pairwise_append]
    refine ⟨sorted_upto left k, ?_, fun a ha b hb => ?_⟩
    · split <;> simp
    · have h1 := (mem_uptoL left k a).1 ha
      split at hb
      · simp at hb; omega
      · cases hb
theorem nodup_upto (left : Int → Nat) (k : Nat) : (uptoL left k).Nodup := (sorted_upto left k).imp fun h e => by omega
theorem mem_dueL (left : Int → Nat) (hr : ∀ i, left i ≠ 0 → 0 ≤ i ∧ i < 20) (i : Int) : i ∈ dueL left ↔ left i = 1 := by
  unfold dueL
  rw [mem_uptoL]
  constructor
  · exact fun h => h.2.2
  · intro h
    have := hr i (by omega)
    exact ⟨this.1, by omega, h⟩
theorem sort_dueL (H : Inv left now q h) : (q ((now + 1) % 400)).mergeSort (fun x y => decide (x ≤ y)) = dueL left := by
  have hp : ((q ((now + 1) % 400)).mergeSort (fun x y => decide (x ≤ y))).Perm (dueL left) := by
    refine (List.mergeSort_perm _ _).trans ?_
    rw [dueL, List.perm_ext_iff_of_nodup (H.nd ((now + 1) % 400) (Nat.mod_lt _ (by omega))) (nodup_upto left 20)]
    intro i
    rw [due_one H i]
    exact (mem_dueL left (fun j hj => ⟨(H.rng j hj).1, (H.rng j hj).2.1⟩) i).symm
  have h1 : ((q ((now + 1) % 400)).mergeSort (fun x y => decide (x ≤ y))).Pairwise (· ≤ ·) := by
    have := List.pairwise_mergeSort (le := fun x y : Int => decide (x ≤ y)) (fun a b c h1 h2 => by simp at *; omega) (fun a b => by simp; omega) (q ((now + 1) % 400))
    exact this.imp (fun h => by simpa using h)
  have h2 : (dueL left).Pairwise (· ≤ ·) := (sorted_upto left 20).imp (fun h => by omega)
  exact hp.eq_of_pairwise (le := (· ≤ ·)) (fun a b _ _ h1 h2 => by omega) h1 h2
theorem len_slot (H : Inv left now q h) {s : Nat} (hs : s < 400) : (q s).length ≤ 20 := by
  have hp : (q s).Perm (uptoL (fun i => if left i ≠ 0 ∧ (now + left i) % 400 = s then 1 else 0) 20) := by
    rw [List.perm_ext_iff_of_nodup (H.nd _ hs) (nodup_upto _ 20)]
    intro i
    rw [mem_uptoL, H.mem s hs i]
    constructor
    · intro h1
      have := H.rng i h1.1
      refine ⟨this.1, by omega, ?_⟩
      rw [if_pos h1]
    · rintro ⟨_, _, h3⟩
      by_cases e : left i ≠ 0 ∧ (now + left i) % 400 = s
      · exact e
      · rw [if_neg e] at h3; omega
  rw [hp.length_eq]
  exact len_upto _ 20
theorem left_key (H : Inv left now q h) (i : Int) : left i = 0 ∧ h i = none ∨ left i ≠ 0 ∧ 0 ≤ i ∧ i < 20 ∧ ∃ s : Nat, s < 400 ∧ (now + left i) % 400 = s ∧ h i = some (s : Int) ∧ (((s : Int) - now - 1 + 400).tmod 400 + 1 = left i) := by
  have h1 := H.key i
  by_cases e : left i = 0
  · rw [if_pos e] at h1
    exact .inl ⟨e, h1⟩
  · rw [if_neg e] at h1
    have h2 := H.rng i e
    have h3 := H.lt
    refine .inr ⟨e, h2.1, h2.2.1, _, Nat.mod_lt _ (by omega), rfl, h1, ?_⟩
    rw [Int.tmod_eq_emod_of_nonneg (by omega)]
    omega
end Go.Proofs.Ytckfobkkjiiheaa.WheelMath
