/- Distance vectors: ways over links, and what is known round by round. The mathematics, without the program. No statement is proved here. -/
import Derived.Test.YtedhippamfioeaaDoorRows
namespace Go.Proofs.YtedhippamfioeaaDoor.Vector
set_option linter.unusedVariables false

/-- A link: two ends, a cost. -/
structure Lk where
  a : Int
  b : Int
  c : Int
instance : Inhabited Lk := ⟨⟨0, 0, 0⟩⟩
def lk (ls : List Lk) (k : Nat) : Lk := ls[k]?.getD default
/-- What is wrong with one link. -/
def bad1 (n : Int) (l : Lk) : Int := if l.a < 0 ∨ n ≤ l.a ∨ l.b < 0 ∨ n ≤ l.b ∨ l.c < 1 ∨ 20 < l.c then 1 else if l.a = l.b then 3 else 0
def bads (n : Int) : List Lk → Int
  | [] => 0
  | l :: ls => if bad1 n l = 0 then bads n ls else bad1 n l
/-- What is wrong with a network. -/
def code (n : Int) (ls : List Lk) : Int := if n < 1 ∨ 8 < n then 1 else if 32 < ls.length then 4 else bads n ls
structure Good (n : Nat) (ls : List Lk) : Prop where
  lo : 1 ≤ n
  up : n ≤ 8
  len : ls.length ≤ 32
  all : ∀ l ∈ ls, (0 ≤ l.a ∧ l.a < n) ∧ (0 ≤ l.b ∧ l.b < n) ∧ (1 ≤ l.c ∧ l.c ≤ 20) ∧ l.a ≠ l.b
theorem bad1_zero {n : Int} {l : Lk} : bad1 n l = 0 ↔ (0 ≤ l.a ∧ l.a < n) ∧ (0 ≤ l.b ∧ l.b < n) ∧ (1 ≤ l.c ∧ l.c ≤ 20) ∧ l.a ≠ l.b := by
  unfold bad1
  by_cases h : l.a < 0 ∨ n ≤ l.a ∨ l.b < 0 ∨ n ≤ l.b ∨ l.c < 1 ∨ 20 < l.c
  · rw [if_pos h]
    constructor
    · intro h; cases h
    · intro h2; omega
  · rw [if_neg h]
    by_cases e : l.a = l.b
    · rw [if_pos e]
      constructor
      · intro h; cases h
      · intro h2; exact absurd e h2.2.2.2
    · rw [if_neg e]
      constructor
      · intro _; exact ⟨by omega, by omega, by omega, e⟩
      · intro _; rfl
theorem bads_zero {n : Int} : ∀ {ls : List Lk}, bads n ls = 0 ↔ ∀ l ∈ ls, bad1 n l = 0
  | [] => by simp [bads]
  | l :: ls => by
    unfold bads
    rw [List.forall_mem_cons, ← bads_zero]
    by_cases h : bad1 n l = 0
    · rw [if_pos h]; simp [h]
    · rw [if_neg h]; simp [h]
theorem bads_at {n : Int} : ∀ (ls : List Lk) (k : Nat), k < ls.length → (∀ j, j < k → bad1 n (lk ls j) = 0) → bad1 n (lk ls k) ≠ 0 → bads n ls = bad1 n (lk ls k)
  | [], k, h, _, _ => by simp at h
  | l :: ls, 0, h, hz, hk => by
    have : lk (l :: ls) 0 = l := rfl
    rw [this] at hk ⊢
    unfold bads; rw [if_neg hk]
  | l :: ls, k + 1, h, hz, hk => by
    have h0 := hz 0 (by omega)
    have e0 : lk (l :: ls) 0 = l := rfl
    have e1 : lk (l :: ls) (k + 1) = lk ls k := rfl
    rw [e0] at h0
    rw [e1] at hk ⊢
    unfold bads
    rw [if_pos h0]
    exact bads_at ls k (by simpa using h) (fun j hj => by have := hz (j + 1) (by omega); exact this) hk
theorem lk_mem {ls : List Lk} {k : Nat} (h : k < ls.length) : lk ls k ∈ ls := by
  unfold lk; rw [List.getElem?_eq_getElem h]; exact List.getElem_mem h
theorem lk_of_mem {ls : List Lk} {l : Lk} (h : l ∈ ls) : ∃ k, k < ls.length ∧ lk ls k = l := by
  obtain ⟨k, hk, rfl⟩ := List.getElem_of_mem h
  exact ⟨k, hk, by unfold lk; rw [List.getElem?_eq_getElem hk]; rfl⟩
theorem bads_none {n : Int} {ls : List Lk} (h : ∀ j, j < ls.length → bad1 n (lk ls j) = 0) : bads n ls = 0 := by
  refine bads_zero.2 fun l hl => ?_
  obtain ⟨k, hk, rfl⟩ := lk_of_mem hl
  exact h k hk
theorem good_of {n : Int} {ls : List Lk} (h : code n ls = 0) : ∃ m : Nat, n = (m : Int) ∧ Good m ls := by
  unfold code at h
  by_cases h1 : n < 1 ∨ 8 < n
  · rw [if_pos h1] at h; cases h
  · rw [if_neg h1] at h
    by_cases h2 : 32 < ls.length
    · rw [if_pos h2] at h; cases h
    · rw [if_neg h2] at h
      refine ⟨n.toNat, by omega, by omega, by omega, by omega, fun l hl => ?_⟩
      have := bad1_zero.1 (bads_zero.1 h l hl)
      rw [show n = ((n.toNat : Nat) : Int) by omega] at this
      exact this
theorem code_good {n : Nat} {ls : List Lk} (h : Good n ls) : code (n : Int) ls = 0 := by
  have h1 := h.lo; have h2 := h.up; have h3 := h.len
  unfold code
  rw [if_neg (by omega), if_neg (by omega)]
  exact bads_zero.2 fun l hl => bad1_zero.2 (h.all l hl)
theorem code_val (n : Int) (ls : List Lk) : code n ls = 0 ∨ code n ls = 1 ∨ code n ls = 3 ∨ code n ls = 4 := by
  unfold code
  split
  · exact .inr (.inl rfl)
  split
  · exact .inr (.inr (.inr rfl))
  induction ls with
  | nil => exact .inl rfl
  | cons l ls ih =>
    unfold bads
    split
    · exact ih (by simp at *; omega)
    · unfold bad1
      split
      · exact .inr (.inl rfl)
      split
      · exact .inr (.inr (.inl rfl))
      · exact .inl rfl

/-- A table of distances. -/
abbrev Tb := Nat → Nat → Int
def un : Tb := fun i j => if i = j then 0 else 1000
/-- What a node hears over one link, one way. -/
def hear (t : Tb) (x : Nat) (f : Nat → Int) (c : Int) : Tb := fun i j => if i = x then min (t i j) (c + f j) else t i j
def step (f t : Tb) (l : Lk) : Tb := hear (hear t l.a.toNat (f l.b.toNat) l.c) l.b.toNat (f l.a.toNat) l.c
def part (ls : List Lk) (f : Tb) : Nat → Tb
  | 0 => un
  | k + 1 => step f (part ls f k) (lk ls k)
def round (ls : List Lk) (f : Tb) : Tb := part ls f ls.length
def D (ls : List Lk) : Nat → Tb
  | 0 => un
  | k + 1 => round ls (D ls k)
/-- Two nodes have a link at this cost. -/
def Ed (ls : List Lk) (i j : Nat) (c : Int) : Prop := ∃ l ∈ ls, l.c = c ∧ (l.a.toNat = i ∧ l.b.toNat = j ∨ l.a.toNat = j ∧ l.b.toNat = i)
theorem Ed.symm {ls : List Lk} {i j : Nat} {c : Int} (h : Ed ls i j c) : Ed ls j i c := by
  obtain ⟨l, hl, hc, h⟩ := h
  exact ⟨l, hl, hc, h.symm⟩
theorem Ed.cost {n : Nat} {ls : List Lk} (g : Good n ls) {i j : Nat} {c : Int} (h : Ed ls i j c) : 1 ≤ c ∧ c ≤ 20 ∧ i < n ∧ j < n ∧ i ≠ j := by
  obtain ⟨l, hl, rfl, h⟩ := h
  have := g.all l hl
  omega
theorem hear_le (t : Tb) (x : Nat) (f : Nat → Int) (c : Int) (i j : Nat) : hear t x f c i j ≤ t i j := by
  unfold hear; split <;> omega
theorem hear_new (t : Tb) (x : Nat) (f : Nat → Int) (c : Int) (j : Nat) : hear t x f c x j ≤ c + f j := by
  unfold hear; rw [if_pos rfl]; omega
theorem hear_or (t : Tb) (x : Nat) (f : Nat → Int) (c : Int) (i j : Nat) : hear t x f c i j = t i j ∨ (i = x ∧ hear t x f c i j = c + f j) := by
  unfold hear
  split
  · rename_i h
    rcases Int.le_total (t i j) (c + f j) with h2 | h2
    · exact .inl (Int.min_eq_left h2)
    · exact .inr ⟨h, Int.min_eq_right h2⟩
  · exact .inl rfl
theorem step_le (f t : Tb) (l : Lk) (i j : Nat) : step f t l i j ≤ t i j := Int.le_trans (hear_le _ _ _ _ i j) (hear_le _ _ _ _ i j)
theorem part_mono (ls : List Lk) (f : Tb) (i j k : Nat) : ∀ d, part ls f (k + d) i j ≤ part ls f k i j
  | 0 => Int.le_refl _
  | d + 1 => Int.le_trans (step_le f (part ls f (k + d)) (lk ls (k + d)) i j) (part_mono ls f i j k d)
theorem part_or (ls : List Lk) (f : Tb) (i j : Nat) : ∀ k, k ≤ ls.length → part ls f k i j = un i j ∨ ∃ m c, Ed ls i m c ∧ part ls f k i j = c + f m j
  | 0, _ => .inl rfl
  | k + 1, hk => by
    have hm := lk_mem (show k < ls.length by omega)
    show step f (part ls f k) (lk ls k) i j = _ ∨ ∃ m c, _ ∧ step f (part ls f k) (lk ls k) i j = _
    unfold step
    rcases hear_or (hear (part ls f k) (lk ls k).a.toNat (f (lk ls k).b.toNat) (lk ls k).c) (lk ls k).b.toNat (f (lk ls k).a.toNat) (lk ls k).c i j with h | ⟨h1, h⟩
    · rw [h]
      rcases hear_or (part ls f k) (lk ls k).a.toNat (f (lk ls k).b.toNat) (lk ls k).c i j with h | ⟨h1, h⟩
      · rw [h]; exact part_or ls f i j k (by omega)
      · exact .inr ⟨(lk ls k).b.toNat, (lk ls k).c, ⟨_, hm, rfl, .inl ⟨h1.symm, rfl⟩⟩, h⟩
    · exact .inr ⟨(lk ls k).a.toNat, (lk ls k).c, ⟨_, hm, rfl, .inr ⟨rfl, h1.symm⟩⟩, h⟩
theorem round_un (ls : List Lk) (f : Tb) (i j : Nat) : round ls f i j ≤ un i j := by
  have := part_mono ls f i j 0 ls.length
  rwa [Nat.zero_add] at this
theorem round_le (ls : List Lk) (f : Tb) {i m : Nat} {c : Int} (h : Ed ls i m c) (j : Nat) : round ls f i j ≤ c + f m j := by
  obtain ⟨l, hl, rfl, h⟩ := h
  obtain ⟨k, hk, rfl⟩ := lk_of_mem hl
  have h1 : round ls f i j ≤ part ls f (k + 1) i j := by
    have := part_mono ls f i j (k + 1) (ls.length - (k + 1))
    rwa [show k + 1 + (ls.length - (k + 1)) = ls.length by omega] at this
  refine Int.le_trans h1 ?_
  show step f (part ls f k) (lk ls k) i j ≤ _
  unfold step
  rcases h with ⟨rfl, rfl⟩ | ⟨rfl, rfl⟩
  · exact Int.le_trans (hear_le _ _ _ _ _ _) (hear_new _ _ _ _ _)
  · exact hear_new _ _ _ _ _
theorem round_or (ls : List Lk) (f : Tb) (i j : Nat) : round ls f i j = un i j ∨ ∃ m c, Ed ls i m c ∧ round ls f i j = c + f m j := part_or ls f i j ls.length (Nat.le_refl _)

/-- A way over so many links, at this cost. -/
inductive Way (ls : List Lk) : Nat → Nat → Nat → Int → Prop
  | nil (i : Nat) : Way ls 0 i i 0
  | cons {k i m j : Nat} {c d : Int} : Ed ls i m c → Way ls k m j d → Way ls (k + 1) i j (c + d)
theorem Way.join {ls : List Lk} {k m i j x : Nat} {c d : Int} (h : Way ls k i j c) (h2 : Way ls m j x d) : Way ls (k + m) i x (c + d) := by
  induction h with
  | nil i => rw [Nat.zero_add, Int.zero_add]; exact h2
  | cons e _ ih =>
    rw [Nat.add_right_comm, Int.add_assoc]
    exact .cons e (ih h2)
theorem Way.one {ls : List Lk} {i j : Nat} {c : Int} (h : Ed ls i j c) : Way ls 1 i j c := by
  have := Way.cons h (.nil j)
  rwa [Int.add_zero] at this
theorem Way.back {ls : List Lk} {k i j : Nat} {c : Int} (h : Way ls k i j c) : Way ls k j i c := by
  induction h with
  | nil i => exact .nil i
  | cons e _ ih =>
    have := ih.join (Way.one e.symm)
    rwa [Int.add_comm] at this
theorem Way.cost {n : Nat} {ls : List Lk} (g : Good n ls) {k i j : Nat} {c : Int} (h : Way ls k i j c) : (k : Int) ≤ c ∧ c ≤ 20 * k ∧ (k = 0 → i = j) := by
  induction h with
  | nil i => exact ⟨Int.le_refl _, by omega, fun _ => rfl⟩
  | cons e _ ih =>
    have := Ed.cost g e
    omega
/-- What is known behind k rounds is how far it is over no more than k links. -/
theorem D_top {n : Nat} {ls : List Lk} (k i j : Nat) : D ls k i j ≤ 1000 := by
  have h : D ls k i j ≤ un i j := by
    cases k with
    | zero => exact Int.le_refl _
    | succ k => exact round_un ls _ i j
  unfold un at h
  split at h <;> omega
theorem D_way {n : Nat} {ls : List Lk} (g : Good n ls) : ∀ (k i j : Nat), D ls k i j = 1000 ∨ ∃ m, m ≤ k ∧ Way ls m i j (D ls k i j)
  | 0, i, j => by
    show un i j = _ ∨ ∃ m, _ ∧ Way ls m i j (un i j)
    unfold un
    by_cases e : i = j
    · rw [if_pos e]; subst e; exact .inr ⟨0, Nat.le_refl _, .nil i⟩
    · rw [if_neg e]; exact .inl rfl
  | k + 1, i, j => by
    rcases round_or ls (D ls k) i j with h | ⟨m, c, he, h⟩
    · have h2 : D ls (k + 1) i j = un i j := h
      rw [h2]
      unfold un
      by_cases e : i = j
      · rw [if_pos e]; subst e; exact .inr ⟨0, by omega, .nil i⟩
      · rw [if_neg e]; exact .inl rfl
    · have h2 : D ls (k + 1) i j = c + D ls k m j := h
      rcases D_way g k m j with h3 | ⟨q, hq, hw⟩
      · have := D_top (n := n) (ls := ls) (k + 1) i j
        have := Ed.cost g he
        omega
      · refine .inr ⟨q + 1, by omega, ?_⟩
        rw [h2]
        exact .cons he hw
theorem D_le {ls : List Lk} {m i j : Nat} {c : Int} (h : Way ls m i j c) : ∀ k, m ≤ k → D ls k i j ≤ c := by
  induction h with
  | nil i =>
    intro k _
    have h : D ls k i i ≤ un i i := by
      cases k with
      | zero => exact Int.le_refl _
      | succ k => exact round_un ls _ i i
    unfold un at h
    rwa [if_pos rfl] at h
  | @cons q i x j c d e _ ih =>
    intro k hk
    obtain ⟨k, rfl⟩ : ∃ r, k = r + 1 := ⟨k - 1, by omega⟩
    have h1 : D ls (k + 1) i j ≤ c + D ls k x j := round_le ls (D ls k) e j
    have := ih k (by omega)
    omega
theorem D_mono {n : Nat} {ls : List Lk} (g : Good n ls) {k m : Nat} (h : k ≤ m) (i j : Nat) : D ls m i j ≤ D ls k i j := by
  rcases D_way g k i j with e | ⟨q, hq, hw⟩
  · rw [e]; exact D_top (n := n) m i j
  · exact D_le hw m (by omega)
theorem D_sym {n : Nat} {ls : List Lk} (g : Good n ls) (k i j : Nat) : D ls k i j = D ls k j i := by
  have key : ∀ i j, D ls k i j ≤ D ls k j i := fun i j => by
    rcases D_way g k j i with e | ⟨q, hq, hw⟩
    · rw [e]; exact D_top (n := n) k i j
    · exact D_le hw.back k hq
  exact Int.le_antisymm (key i j) (key j i)
theorem D_self {n : Nat} {ls : List Lk} (g : Good n ls) (k i : Nat) : D ls k i i = 0 := by
  have h1 := D_le (Way.nil (ls := ls) i) k (Nat.zero_le _)
  rcases D_way g k i i with e | ⟨q, hq, hw⟩
  · omega
  · have := hw.cost g
    omega
theorem D_pos {n : Nat} {ls : List Lk} (g : Good n ls) (k : Nat) {i j : Nat} (h : i ≠ j) : 1 ≤ D ls k i j := by
  rcases D_way g k i j with e | ⟨q, hq, hw⟩
  · omega
  · have := hw.cost g
    omega
theorem D_nat {n : Nat} {ls : List Lk} (g : Good n ls) (k i j : Nat) : 0 ≤ D ls k i j := by
  by_cases e : i = j
  · subst e; rw [D_self g]; exact Int.le_refl _
  · have := D_pos g k e; omega

/-- A way by its nodes; it ends at j. -/
inductive Pth (ls : List Lk) (j : Nat) : List Nat → Int → Prop
  | nil : Pth ls j [j] 0
  | cons {i m : Nat} {p : List Nat} {c d : Int} : Ed ls i m c → Pth ls j (m :: p) d → Pth ls j (i :: m :: p) (c + d)
theorem Pth.cost {n : Nat} {ls : List Lk} (g : Good n ls) {j : Nat} {l : List Nat} {c : Int} (h : Pth ls j l c) : 0 ≤ c := by
  induction h with
  | nil => exact Int.le_refl _
  | cons e _ ih => have := Ed.cost g e; omega
theorem Pth.cut {n : Nat} {ls : List Lk} (g : Good n ls) {j : Nat} {l : List Nat} {c : Int} (h : Pth ls j l c) : ∀ i ∈ l, ∃ p d, Pth ls j (i :: p) d ∧ d ≤ c ∧ (i :: p) <:+ l := by
  induction h with
  | nil =>
    intro i hi
    rw [List.mem_singleton.1 hi]
    exact ⟨[], 0, .nil, Int.le_refl _, List.suffix_refl _⟩
  | @cons x m p c d e h ih =>
    intro i hi
    by_cases hx : i = x
    · subst hx
      exact ⟨m :: p, c + d, .cons e h, Int.le_refl _, List.suffix_refl _⟩
    · rcases List.mem_cons.1 hi with hi | hi
      · exact absurd hi hx
      · obtain ⟨q, d2, h1, h2, h3⟩ := ih i hi
        have := Ed.cost g e
        exact ⟨q, d2, h1, by omega, h3.trans (List.suffix_cons _ _)⟩
theorem Pth.way {ls : List Lk} {j : Nat} {l : List Nat} {c : Int} (h : Pth ls j l c) : ∀ i p, l = i :: p → Way ls p.length i j c := by
  induction h with
  | nil =>
    intro i p e
    injection e with e1 e2
    subst e1; subst e2
    exact .nil _
  | cons e h ih =>
    intro i p he
    injection he with e1 e2
    subst e1; subst e2
    exact .cons e (ih _ _ rfl)
theorem Pth.lt {n : Nat} {ls : List Lk} (g : Good n ls) {j : Nat} (hj : j < n) {l : List Nat} {c : Int} (h : Pth ls j l c) : ∀ x ∈ l, x < n := by
  induction h with
  | nil => intro x hx; rw [List.mem_singleton.1 hx]; exact hj
  | cons e _ ih =>
    intro x hx
    rcases List.mem_cons.1 hx with rfl | hx
    · exact (Ed.cost g e).2.2.1
    · exact ih x hx
theorem Way.pth {n : Nat} {ls : List Lk} (g : Good n ls) {k i j : Nat} {c : Int} (h : Way ls k i j c) : ∃ p d, Pth ls j (i :: p) d ∧ d ≤ c ∧ (i :: p).Nodup ∧ p.length ≤ k := by
  induction h with
  | nil i => exact ⟨[], 0, .nil, Int.le_refl _, by simp, Nat.le_refl _⟩
  | @cons k i m j c d e _ ih =>
    obtain ⟨p, d2, h1, h2, h3, h4⟩ := ih
    have he := Ed.cost g e
    by_cases hi : i ∈ m :: p
    · obtain ⟨q, d3, h5, h6, h7⟩ := h1.cut g i hi
      refine ⟨q, d3, h5, by omega, h3.sublist h7.sublist, ?_⟩
      have := h7.length_le
      simp only [List.length_cons] at this
      omega
    · exact ⟨m :: p, c + d2, .cons e h1, by omega, List.nodup_cons.2 ⟨hi, h3⟩, by simp only [List.length_cons]; omega⟩
theorem nodup_len : ∀ (n : Nat) (l : List Nat), l.Nodup → (∀ x ∈ l, x < n) → l.length ≤ n
  | 0, l, _, h => by
    cases l with
    | nil => exact Nat.le_refl _
    | cons x l => exact absurd (h x (List.mem_cons_self ..)) (Nat.not_lt_zero _)
  | n + 1, l, hd, h => by
    have h1 := nodup_len n (l.erase n) (hd.erase n) fun x hx => by
      have := (hd.mem_erase_iff).1 hx
      have := h x this.2
      omega
    rw [List.length_erase] at h1
    split at h1 <;> omega
/-- No way need be longer than there are nodes. -/
theorem Way.short {n : Nat} {ls : List Lk} (g : Good n ls) {k i j : Nat} {c : Int} (hj : j < n) (h : Way ls k i j c) : ∃ m d, m ≤ k ∧ m < n ∧ d ≤ c ∧ Way ls m i j d := by
  obtain ⟨p, d, h1, h2, h3, h4⟩ := h.pth g
  have := nodup_len n (i :: p) h3 (h1.lt g hj)
  simp only [List.length_cons] at this
  exact ⟨p.length, d, h4, by omega, h2, h1.way i p rfl⟩
/-- From n - 1 rounds on all is known. -/
theorem D_end {n : Nat} {ls : List Lk} (g : Good n ls) {k m i j : Nat} (hj : j < n) (hk : n ≤ k + 1) (hm : n ≤ m + 1) : D ls k i j = D ls m i j := by
  have key : ∀ k m, n ≤ k + 1 → D ls k i j ≤ D ls m i j := fun k m hk => by
    rcases D_way g m i j with e | ⟨q, hq, hw⟩
    · rw [e]; exact D_top (n := n) k i j
    · obtain ⟨r, d, h1, h2, h3, h4⟩ := hw.short g hj
      exact Int.le_trans (D_le h4 k (by omega)) h3
  exact Int.le_antisymm (key k m hk) (key m k hm)
theorem D_tri {n : Nat} {ls : List Lk} (g : Good n ls) {k i j x : Nat} (hj : j < n) (hk : n ≤ k + 1) : D ls k i j ≤ D ls k i x + D ls k x j := by
  have h0 := D_top (n := n) (ls := ls) k i j
  rcases D_way g k i x with e | ⟨q, hq, hw⟩
  · have := D_nat g k x j; omega
  · rcases D_way g k x j with e | ⟨r, hr, hv⟩
    · have := D_nat g k i x; omega
    · rw [D_end g hj hk (show n ≤ (q + r + k) + 1 by omega)]
      exact D_le (hw.join hv) _ (by omega)
/-- Nothing changes from here on. -/
def Stab (n : Nat) (ls : List Lk) (k : Nat) : Prop := ∀ i j, i < n → j < n → D ls k i j = D ls (k + 1) i j
theorem part_congr {n : Nat} {ls : List Lk} (g : Good n ls) {f f' : Tb} {i j : Nat} (h : ∀ m, m < n → f m j = f' m j) : round ls f i j = round ls f' i j := by
  have key : ∀ f f' : Tb, (∀ m, m < n → f m j = f' m j) → round ls f i j ≤ round ls f' i j := fun f f' h => by
    rcases round_or ls f' i j with e | ⟨m, c, he, e⟩
    · rw [e]; exact round_un ls f i j
    · rw [e, ← h m (Ed.cost g he).2.2.2.1]; exact round_le ls f he j
  exact Int.le_antisymm (key f f' h) (key f' f fun m hm => (h m hm).symm)
theorem Stab.on {n : Nat} {ls : List Lk} (g : Good n ls) {k : Nat} (h : Stab n ls k) : ∀ d, Stab n ls (k + d)
  | 0 => h
  | d + 1 => fun i j hi hj => by
    have ih := Stab.on g h d
    exact part_congr g (i := i) (j := j) fun m hm => ih m j hm hj
theorem Stab.eq {n : Nat} {ls : List Lk} (g : Good n ls) {k : Nat} (h : Stab n ls k) {i j : Nat} (hi : i < n) (hj : j < n) : ∀ d, D ls (k + d) i j = D ls k i j
  | 0 => rfl
  | d + 1 => (Stab.on g h d i j hi hj).symm.trans (Stab.eq g h hi hj d)
theorem stab_end {n : Nat} {ls : List Lk} (g : Good n ls) : Stab n ls (n - 1) := fun i j _ hj => D_end g hj (by omega) (by omega)
/-- The number of rounds after which nothing changes. -/
structure Settled (n : Nat) (ls : List Lk) (k : Nat) : Prop where
  stab : Stab n ls k
  first : ∀ m, m < k → ¬ Stab n ls m
theorem Settled.lt {n : Nat} {ls : List Lk} (g : Good n ls) {k : Nat} (h : Settled n ls k) : k < n := by
  have := g.lo
  rcases Nat.lt_or_ge k n with h2 | h2
  · exact h2
  · exact absurd (stab_end g) (h.first (n - 1) (by omega))
theorem settled_is {n : Nat} {ls : List Lk} (g : Good n ls) : ∃ k, Settled n ls k := by
  have key : ∀ d m, m + d = n - 1 → (∀ q, q < m → ¬ Stab n ls q) → ∃ k, Settled n ls k := by
    intro d
    induction d with
    | zero => intro m hm hq; exact ⟨m, by rw [show m = n - 1 by omega]; exact stab_end g, hq⟩
    | succ d ih =>
      intro m hm hq
      by_cases hs : Stab n ls m
      · exact ⟨m, hs, hq⟩
      · exact ih (m + 1) (by omega) fun q hq2 => by
          rcases Nat.lt_or_ge q m with h | h
          · exact hq q h
          · rw [show q = m by omega]; exact hs
  exact key (n - 1) 0 (by omega) fun q hq => absurd hq (Nat.not_lt_zero _)
theorem Settled.uniq {n : Nat} {ls : List Lk} {k m : Nat} (h : Settled n ls k) (h2 : Settled n ls m) : k = m := by
  rcases Nat.lt_trichotomy k m with e | e | e
  · exact absurd h.stab (h2.first k e)
  · exact e
  · exact absurd h2.stab (h.first m e)
/-- A table as rows. -/
def rw1 (n : Nat) (f : Nat → Int) : List Int := (List.range n).map f
def rows (n : Nat) (f : Tb) : List (List Int) := (List.range n).map fun i => rw1 n (f i)
theorem rw1_len (n : Nat) (f : Nat → Int) : (rw1 n f).length = n := by simp [rw1]
theorem rw1_get (n : Nat) (f : Nat → Int) {k : Nat} (hk : k < n) : (rw1 n f)[k]?.getD 0 = f k := by simp [rw1, hk]
theorem rows_len (n : Nat) (f : Tb) : (rows n f).length = n := by simp [rows]
theorem rows_get (n : Nat) (f : Tb) {k : Nat} (hk : k < n) : (rows n f)[k]?.getD [] = rw1 n (f k) := by simp [rows, hk]
theorem rw1_congr {n : Nat} {f g : Nat → Int} (h : ∀ k, k < n → f k = g k) : rw1 n f = rw1 n g := List.map_congr_left fun j hj => h j (List.mem_range.1 hj)
theorem rw1_eq {n : Nat} {f g : Nat → Int} (h : rw1 n f = rw1 n g) {k : Nat} (hk : k < n) : f k = g k := by
  rw [← rw1_get n f hk, ← rw1_get n g hk, h]
theorem rows_congr {n : Nat} {f g : Tb} (h : ∀ i j, i < n → j < n → f i j = g i j) : rows n f = rows n g := List.map_congr_left fun i hi => rw1_congr fun j hj => h i j (List.mem_range.1 hi) hj
theorem rows_eq {n : Nat} {f g : Tb} (h : rows n f = rows n g) {i j : Nat} (hi : i < n) (hj : j < n) : f i j = g i j := by
  have : rw1 n (f i) = rw1 n (g i) := by rw [← rows_get n f hi, ← rows_get n g hi, h]
  exact rw1_eq this hj
theorem stab_rows {n : Nat} {ls : List Lk} {k : Nat} : rows n (D ls k) = rows n (D ls (k + 1)) ↔ Stab n ls k :=
  ⟨fun h i j hi hj => rows_eq h hi hj, fun h => rows_congr h⟩
/-- Links of cost 1. -/
def evn (ls : List Lk) : List Lk := ls.map fun l => ⟨l.a, l.b, 1⟩
theorem evn_good {n : Nat} {ls : List Lk} (g : Good n ls) : Good n (evn ls) := ⟨g.lo, g.up, by rw [evn, List.length_map]; exact g.len, fun l hl => by
  obtain ⟨x, hx, rfl⟩ := List.mem_map.1 hl
  have := g.all x hx
  exact ⟨this.1, this.2.1, by show (1 : Int) ≤ 1 ∧ (1 : Int) ≤ 20; omega, this.2.2.2⟩⟩
theorem Way.flat {ls : List Lk} {k i j : Nat} {c : Int} (h : Way ls k i j c) : Way (evn ls) k i j k := by
  induction h with
  | nil i => exact .nil i
  | cons e _ ih =>
    obtain ⟨l, hl, _, h⟩ := e
    have : Ed (Vector.evn ls) _ _ 1 := ⟨⟨l.a, l.b, 1⟩, List.mem_map.2 ⟨l, hl, rfl⟩, rfl, h⟩
    have := Way.cons this ih
    rwa [Int.add_comm] at this
theorem Way.odd {ls : List Lk} {k i j : Nat} {c : Int} (h : Way (evn ls) k i j c) : ∃ d, Way ls k i j d := by
  induction h with
  | nil i => exact ⟨0, .nil i⟩
  | cons e _ ih =>
    obtain ⟨d, hd⟩ := ih
    obtain ⟨l, hl, _, h⟩ := e
    obtain ⟨x, hx, rfl⟩ := List.mem_map.1 hl
    exact ⟨_, .cons ⟨x, hx, rfl, h⟩ hd⟩
theorem reach {n : Nat} {ls : List Lk} (g : Good n ls) {many i j : Nat} (hm : many ≤ 20) (hj : j < n) : D ls many i j < 1000 ↔ D (evn ls) 8 i j ≤ many := by
  have g2 := evn_good g
  have hup := g.up
  constructor
  · intro h
    rcases D_way g many i j with e | ⟨q, hq, hw⟩
    · omega
    · obtain ⟨r, d, h1, h2, h3, h4⟩ := hw.short g hj
      have := D_le h4.flat 8 (by omega)
      omega
  · intro h
    rcases D_way g2 8 i j with e | ⟨q, hq, hw⟩
    · omega
    · have h1 := hw.cost g2
      obtain ⟨d, hd⟩ := hw.odd
      have h2 := D_le hd many (by omega)
      have h3 := hd.cost g
      omega
end Go.Proofs.YtedhippamfioeaaDoor.Vector
