/- The document's answer on distances: the cost between neighbours, and the least over all nodes. Mathematics alone. No statement is proved here. -/
import Derived.Test.YtedhippamfioeaaDoorVecMath
namespace Go.Proofs.YtedhippamfioeaaDoor.Vector
set_option linter.unusedVariables false

/-- A link that joins two nodes. -/
def fit (l : Lk) (a b : Int) : Prop := (l.a = a ∧ l.b = b) ∨ (l.a = b ∧ l.b = a)
instance (l : Lk) (a b : Int) : Decidable (fit l a b) := inferInstanceAs (Decidable (_ ∨ _))
/-- The least cost among the first links. -/
def cst (ls : List Lk) (a b : Int) : Nat → Int
  | 0 => 1000
  | k + 1 => if fit (lk ls k) a b ∧ (lk ls k).c < cst ls a b k then (lk ls k).c else cst ls a b k
theorem cst_yes {ls : List Lk} {a b : Int} {k : Nat} (h : fit (lk ls k) a b) (h2 : (lk ls k).c < cst ls a b k) : cst ls a b (k + 1) = (lk ls k).c := by
  show (if _ then _ else _) = _
  rw [if_pos ⟨h, h2⟩]
theorem cst_no {ls : List Lk} {a b : Int} {k : Nat} (h : ¬ (fit (lk ls k) a b ∧ (lk ls k).c < cst ls a b k)) : cst ls a b (k + 1) = cst ls a b k := by
  show (if _ then _ else _) = _
  rw [if_neg h]
theorem cst_top (ls : List Lk) (a b : Int) : ∀ k, cst ls a b k ≤ 1000
  | 0 => Int.le_refl _
  | k + 1 => by
    have := cst_top ls a b k
    show (if _ then _ else _) ≤ _
    split
    · rename_i h; omega
    · exact this
theorem cst_mono (ls : List Lk) (a b : Int) (k : Nat) : ∀ d, cst ls a b (k + d) ≤ cst ls a b k
  | 0 => Int.le_refl _
  | d + 1 => by
    have := cst_mono ls a b k d
    show (if fit (lk ls (k + d)) a b ∧ (lk ls (k + d)).c < cst ls a b (k + d) then (lk ls (k + d)).c else cst ls a b (k + d)) ≤ _
    split
    · rename_i h; omega
    · exact this
/-- The cost between two nodes. -/
def co (ls : List Lk) (i j : Nat) : Int := cst ls (i : Int) (j : Int) ls.length
theorem fit_ed {n : Nat} {ls : List Lk} (g : Good n ls) {k i j : Nat} (hk : k < ls.length) : fit (lk ls k) (i : Int) (j : Int) ↔ ((lk ls k).a.toNat = i ∧ (lk ls k).b.toNat = j ∨ (lk ls k).a.toNat = j ∧ (lk ls k).b.toNat = i) := by
  have := g.all _ (lk_mem hk)
  unfold fit
  omega
theorem co_le {n : Nat} {ls : List Lk} (g : Good n ls) {i j : Nat} {c : Int} (h : Ed ls i j c) : co ls i j ≤ c := by
  obtain ⟨l, hl, rfl, h⟩ := h
  obtain ⟨k, hk, rfl⟩ := lk_of_mem hl
  have h1 : co ls i j ≤ cst ls i j (k + 1) := by
    have := cst_mono ls i j (k + 1) (ls.length - (k + 1))
    rwa [show k + 1 + (ls.length - (k + 1)) = ls.length by omega] at this
  refine Int.le_trans h1 ?_
  by_cases h2 : (lk ls k).c < cst ls i j k
  · rw [cst_yes ((fit_ed g hk).2 h) h2]; exact Int.le_refl _
  · rw [cst_no (fun e => h2 e.2)]; omega
theorem cst_or {n : Nat} {ls : List Lk} (g : Good n ls) (i j : Nat) : ∀ k, k ≤ ls.length → cst ls i j k = 1000 ∨ Ed ls i j (cst ls i j k)
  | 0, _ => .inl rfl
  | k + 1, hk => by
    by_cases h : fit (lk ls k) (i : Int) (j : Int) ∧ (lk ls k).c < cst ls i j k
    · rw [cst_yes h.1 h.2]
      exact .inr ⟨_, lk_mem (by omega), rfl, (fit_ed g (by omega)).1 h.1⟩
    · rw [cst_no h]
      exact cst_or g i j k (by omega)
theorem co_or {n : Nat} {ls : List Lk} (g : Good n ls) (i j : Nat) : co ls i j = 1000 ∨ Ed ls i j (co ls i j) := cst_or g i j ls.length (Nat.le_refl _)
theorem co_b {n : Nat} {ls : List Lk} (g : Good n ls) (i j : Nat) : 1 ≤ co ls i j ∧ co ls i j ≤ 1000 := by
  have := cst_top ls i j ls.length
  rcases co_or g i j with h | h
  · omega
  · have := Ed.cost g h
    omega
/-- The best so far over the first nodes. -/
def bst (ls : List Lk) (f : Nat → Int) (i : Nat) : Nat → Int
  | 0 => f i
  | j + 1 => if f j + co ls i j < bst ls f i j then f j + co ls i j else bst ls f i j
theorem bst_mono (ls : List Lk) (f : Nat → Int) (i j : Nat) : ∀ d, bst ls f i (j + d) ≤ bst ls f i j
  | 0 => Int.le_refl _
  | d + 1 => by
    have := bst_mono ls f i j d
    show (if f (j + d) + co ls i (j + d) < bst ls f i (j + d) then f (j + d) + co ls i (j + d) else bst ls f i (j + d)) ≤ _
    split
    · rename_i h; omega
    · exact this
theorem bst_le (ls : List Lk) (f : Nat → Int) (i : Nat) {j n : Nat} (h : j < n) : bst ls f i n ≤ f j + co ls i j := by
  have h1 : bst ls f i n ≤ bst ls f i (j + 1) := by
    have := bst_mono ls f i (j + 1) (n - (j + 1))
    rwa [show j + 1 + (n - (j + 1)) = n by omega] at this
  refine Int.le_trans h1 ?_
  show (if f j + co ls i j < bst ls f i j then f j + co ls i j else bst ls f i j) ≤ _
  split <;> omega
theorem bst_or (ls : List Lk) (f : Nat → Int) (i : Nat) : ∀ j, bst ls f i j = f i ∨ ∃ x, x < j ∧ bst ls f i j = f x + co ls i x
  | 0 => .inl rfl
  | j + 1 => by
    by_cases h : f j + co ls i j < bst ls f i j
    · exact .inr ⟨j, by omega, by show (if _ then _ else _) = _; rw [if_pos h]⟩
    · have e : bst ls f i (j + 1) = bst ls f i j := by show (if _ then _ else _) = _; rw [if_neg h]
      rw [e]
      rcases bst_or ls f i j with h2 | ⟨x, hx, h2⟩
      · exact .inl h2
      · exact .inr ⟨x, by omega, h2⟩
/-- One round of the document is one round of the program. -/
theorem bst_D {n : Nat} {ls : List Lk} (g : Good n ls) (k t i : Nat) : bst ls (fun x => D ls k x t) i n = D ls (k + 1) i t := by
  refine Int.le_antisymm ?_ ?_
  · rcases round_or ls (D ls k) i t with h | ⟨m, c, he, h⟩
    · have h2 : D ls (k + 1) i t = un i t := h
      have h3 := bst_mono ls (fun x => D ls k x t) i 0 n
      rw [Nat.zero_add] at h3
      have h4 : D ls k i t ≤ un i t := by
        cases k with
        | zero => exact Int.le_refl _
        | succ k => exact round_un ls _ i t
      rw [h2]
      exact Int.le_trans h3 h4
    · have h2 : D ls (k + 1) i t = c + D ls k m t := h
      have h3 := bst_le ls (fun x => D ls k x t) i (Ed.cost g he).2.2.2.1
      have h4 := co_le g he
      omega
  · have h0 := D_top (n := n) (ls := ls) (k + 1) i t
    rcases bst_or ls (fun x => D ls k x t) i n with h | ⟨x, hx, h⟩
    · rw [h]; exact D_mono g (Nat.le_succ k) i t
    · rw [h]
      rcases co_or g i x with h2 | h2
      · have := D_nat g k x t
        omega
      · have : D ls (k + 1) i t ≤ co ls i x + D ls k x t := round_le ls (D ls k) h2 t
        omega
theorem bst_b {n : Nat} {ls : List Lk} (g : Good n ls) {f : Nat → Int} (hf : ∀ j, 0 ≤ f j ∧ f j ≤ 1000) (i j : Nat) : 0 ≤ bst ls f i j ∧ bst ls f i j ≤ 1000 := by
  have h := bst_mono ls f i 0 j
  rw [Nat.zero_add] at h
  have h2 : bst ls f i 0 = f i := rfl
  have := hf i
  rcases bst_or ls f i j with h3 | ⟨x, _, h3⟩
  · omega
  · have := hf x
    have := co_b g i x
    omega
/-- The document's count of rounds: what it is at a node, and behind all. -/
theorem cover_on {n : Nat} {ls : List Lk} (g : Good n ls) {s t i : Nat} (hst : s ≤ t) (ht : t ≤ n) (h : rw1 n (D ls s i) = rw1 n (D ls n i)) : rw1 n (D ls t i) = rw1 n (D ls n i) :=
  rw1_congr fun j hj => by
    have h1 := rw1_eq h hj
    have h2 := D_mono g hst i j
    have h3 := D_mono g ht i j
    omega
theorem cover_settled {n : Nat} {ls : List Lk} (g : Good n ls) {s : Nat} (hs : Settled n ls s) (i : Nat) (hi : i < n) : rw1 n (D ls s i) = rw1 n (D ls n i) :=
  rw1_congr fun j hj => by
    have h := Stab.eq g hs.stab hi hj (n - s)
    have := hs.lt g
    rw [show s + (n - s) = n by omega] at h
    exact h.symm
theorem cover_all {n : Nat} {ls : List Lk} (g : Good n ls) {s t : Nat} (hs : Settled n ls s) (ht : t ≤ s) (h : ∀ i, i < n → rw1 n (D ls t i) = rw1 n (D ls n i)) : t = s := by
  rcases Nat.lt_or_ge t s with h2 | h2
  · refine absurd (fun i j hi hj => ?_) (hs.first t h2)
    have := hs.lt g
    have h1 := rw1_eq (h i hi) hj
    have h3 := D_mono g (Nat.le_add_right t 1) i j
    have h4 := D_mono g (show t + 1 ≤ n by omega) i j
    omega
  · omega
end Go.Proofs.YtedhippamfioeaaDoor.Vector
