/- Prefixes of addresses: sets of addresses that have one list of fewest prefixes. No statement is proved here. -/
import Derived.Test.YtlojehakifagbaaKit
namespace Go.Proofs.Ytlojehakifagbaa.CidrMath
set_option linter.unusedVariables false

/-- A prefix: where it begins, and of how many bits. -/
structure Pfx where
  adr : Int
  len : Int
  deriving DecidableEq
/-- The block of 2^k addresses from a on. -/
def blk (a k : Nat) : Pfx := ⟨a, 16 - (k : Int)⟩
/-- How many addresses. -/
def siz (x : Pfx) : Nat := 2 ^ (16 - x.len).toNat
def has (x : Pfx) (a : Nat) : Prop := x.adr ≤ a ∧ (a : Int) < x.adr + siz x
instance (x : Pfx) (a : Nat) : Decidable (has x a) := by unfold has; infer_instance
theorem siz_blk (a k : Nat) : siz (blk a k) = 2 ^ k := by unfold siz blk; simp only; congr 1; omega
theorem has_blk (a k x : Nat) : has (blk a k) x ↔ a ≤ x ∧ x < a + 2 ^ k := by
  unfold has
  rw [siz_blk]
  unfold blk
  simp only
  have : ((2 ^ k : Nat) : Int) = ((2 ^ k : Nat) : Int) := rfl
  generalize 2 ^ k = z
  omega
def cov (l : List Pfx) (a : Nat) : Prop := ∃ x ∈ l, has x a
theorem cov_nil (a : Nat) : ¬ cov [] a := fun ⟨x, hx, _⟩ => by simp at hx
theorem cov_append (l m : List Pfx) (a : Nat) : cov (l ++ m) a ↔ cov l a ∨ cov m a := by
  unfold cov
  constructor
  · rintro ⟨x, hx, h⟩
    rcases List.mem_append.1 hx with h1 | h1
    · exact .inl ⟨x, h1, h⟩
    · exact .inr ⟨x, h1, h⟩
  · rintro (⟨x, hx, h⟩ | ⟨x, hx, h⟩)
    · exact ⟨x, List.mem_append.2 (.inl hx), h⟩
    · exact ⟨x, List.mem_append.2 (.inr hx), h⟩
theorem cov_one (x : Pfx) (a : Nat) : cov [x] a ↔ has x a := by
  unfold cov
  constructor
  · rintro ⟨y, hy, h⟩; rw [List.mem_singleton] at hy; rw [← hy]; exact h
  · intro h; exact ⟨x, by simp, h⟩

/-- The fewest of a block: none, the block, or the fewest of its halves, which are not both whole. -/
inductive Can : Nat → Nat → List Pfx → Prop where
  | none (a k : Nat) : Can a k []
  | whole (a k : Nat) : Can a k [blk a k]
  | halves {a k : Nat} {l m : List Pfx} (hl : Can a k l) (hm : Can (a + 2 ^ k) k m) (h : ¬ (l = [blk a k] ∧ m = [blk (a + 2 ^ k) k])) : Can a (k + 1) (l ++ m)
theorem two_pow (k : Nat) : 2 ^ (k + 1) = 2 ^ k + 2 ^ k := by rw [Nat.pow_succ]; omega
theorem pow_pos' (k : Nat) : 0 < 2 ^ k := Nat.pos_of_ne_zero (by simp)
theorem Can.inside {a k : Nat} {l : List Pfx} (h : Can a k l) : ∀ x, cov l x → a ≤ x ∧ x < a + 2 ^ k := by
  induction h with
  | none a k => intro x hx; exact absurd hx (cov_nil x)
  | whole a k => intro x hx; exact (has_blk a k x).1 ((cov_one _ _).1 hx)
  | halves hl hm h ih1 ih2 =>
    intro x hx
    rw [two_pow]
    rcases (cov_append _ _ _).1 hx with h1 | h1
    · have := ih1 x h1; omega
    · have := ih2 x h1; omega
/-- What has all of a block is the block. -/
theorem Can.full {a k : Nat} {l : List Pfx} (h : Can a k l) : (∀ x, a ≤ x → x < a + 2 ^ k → cov l x) → l = [blk a k] := by
  induction h with
  | none a k => intro hx; exact absurd (hx a (Nat.le_refl _) (by have := pow_pos' k; omega)) (cov_nil a)
  | whole a k => intro _; rfl
  | @halves a k l m hl hm h ih1 ih2 =>
    intro hx
    exfalso
    apply h
    rw [two_pow] at hx
    refine ⟨ih1 fun x h1 h2 => ?_, ih2 fun x h1 h2 => ?_⟩
    · rcases (cov_append _ _ _).1 (hx x h1 (by omega)) with h3 | h3
      · exact h3
      · have := hm.inside x h3; omega
    · rcases (cov_append _ _ _).1 (hx x (by omega) (by omega)) with h3 | h3
      · have := hl.inside x h3; omega
      · exact h3
theorem Can.empty {a k : Nat} {l : List Pfx} (h : Can a k l) : (∀ x, ¬ cov l x) → l = [] := by
  induction h with
  | none a k => intro _; rfl
  | whole a k => intro hx; exact absurd ((cov_one _ a).2 ((has_blk a k a).2 ⟨Nat.le_refl _, by have := pow_pos' k; omega⟩)) (hx a)
  | halves hl hm h ih1 ih2 =>
    intro hx
    rw [ih1 fun x h1 => hx x ((cov_append _ _ _).2 (.inl h1)), ih2 fun x h1 => hx x ((cov_append _ _ _).2 (.inr h1))]; rfl
/-- One set has one list. -/
theorem Can.one {a k : Nat} {l m : List Pfx} (h : Can a k l) (g : Can a k m) (e : ∀ x, cov l x ↔ cov m x) : l = m := by
  induction h generalizing m with
  | none a k => exact (g.empty fun x hx => cov_nil x ((e x).2 hx)).symm
  | whole a k => exact (g.full fun x h1 h2 => (e x).1 ((cov_one _ _).2 ((has_blk a k x).2 ⟨h1, h2⟩))).symm
  | @halves a k l1 l2 hl hm h ih1 ih2 =>
    generalize hk : k + 1 = k1 at g
    cases g with
    | none => exact (Can.halves hl hm h).empty fun x hx => cov_nil x ((e x).1 hx)
    | whole =>
      subst hk
      exact (Can.halves hl hm h).full fun x h1 h2 => (e x).2 ((cov_one _ _).2 ((has_blk a (k + 1) x).2 ⟨h1, h2⟩))
    | @halves _ k2 m1 m2 gl gm g' =>
      obtain rfl : k = k2 := by omega
      have e1 : ∀ x, cov l1 x ↔ cov m1 x := fun x => by
        constructor
        · intro hx
          rcases (cov_append _ _ _).1 ((e x).1 ((cov_append _ _ _).2 (.inl hx))) with h3 | h3
          · exact h3
          · have := hl.inside x hx; have := gm.inside x h3; omega
        · intro hx
          rcases (cov_append _ _ _).1 ((e x).2 ((cov_append _ _ _).2 (.inl hx))) with h3 | h3
          · exact h3
          · have := gl.inside x hx; have := hm.inside x h3; omega
      have e2 : ∀ x, cov l2 x ↔ cov m2 x := fun x => by
        constructor
        · intro hx
          rcases (cov_append _ _ _).1 ((e x).1 ((cov_append _ _ _).2 (.inr hx))) with h3 | h3
          · have := hm.inside x hx; have := gl.inside x h3; omega
          · exact h3
        · intro hx
          rcases (cov_append _ _ _).1 ((e x).2 ((cov_append _ _ _).2 (.inr hx))) with h3 | h3
          · have := gm.inside x hx; have := hl.inside x h3; omega
          · exact h3
      rw [ih1 gl e1, ih2 gm e2]

/-- A prefix that may be. -/
def Good (x : Pfx) : Prop := ∃ a k : Nat, k ≤ 16 ∧ x = blk (a * 2 ^ k) k ∧ a * 2 ^ k < 65536
/-- The fewest of what some have within a block, by the document's way. -/
def few (l : List Pfx) : Nat → Nat → List Pfx
  | a, k => if ∃ x ∈ l, has x a ∧ x.len ≤ 16 - (k : Int) then [blk a k]
    else if ¬ ∃ x ∈ l, 0 ≤ x.adr ∧ has (blk a k) x.adr.toNat then []
    else match k with
      | 0 => []
      | k + 1 =>
        if few l a k = [blk a k] ∧ few l (a + 2 ^ k) k = [blk (a + 2 ^ k) k] then [blk a (k + 1)] else few l a k ++ few l (a + 2 ^ k) k
  termination_by a k => k

theorem few_can (l : List Pfx) : ∀ (k a : Nat), Can a k (few l a k)
  | k, a => by
    unfold few
    split
    · exact .whole a k
    · split
      · exact .none a k
      · cases k with
        | zero => exact .none a 0
        | succ k =>
          simp only
          split
          · exact .whole a (k + 1)
          · rename_i h
            exact .halves (few_can l k a) (few_can l k (a + 2 ^ k)) h
/-- Two blocks are apart, or one in the other: the smaller one is in the greater one where the greater one has its first address. -/
theorem good_in {x : Pfx} (hx : Good x) {a k : Nat} (hl : x.len ≤ 16 - (k : Int)) (h : has x (a * 2 ^ k)) : ∀ y, a * 2 ^ k ≤ y → y < a * 2 ^ k + 2 ^ k → has x y := by
  obtain ⟨b, j, hj, rfl, hb⟩ := hx
  have hkj : k ≤ j := by unfold blk at hl; simp only at hl; omega
  obtain ⟨d, rfl⟩ : ∃ d, j = k + d := ⟨j - k, by omega⟩
  rw [has_blk] at h
  intro y h1 h2
  rw [has_blk]
  rw [Nat.pow_add] at h ⊢
  have e1 : b * (2 ^ k * 2 ^ d) = (b * 2 ^ d) * 2 ^ k := by rw [Nat.mul_assoc, Nat.mul_comm (2 ^ d) (2 ^ k)]
  have e2 : 2 ^ k * 2 ^ d = 2 ^ d * 2 ^ k := Nat.mul_comm _ _
  rw [e1, e2] at h ⊢
  have hp := pow_pos' k
  rw [← Nat.add_mul] at h ⊢
  have h3 : a < b * 2 ^ d + 2 ^ d := Nat.lt_of_mul_lt_mul_right h.2
  have h4 : (a + 1) * 2 ^ k ≤ (b * 2 ^ d + 2 ^ d) * 2 ^ k := Nat.mul_le_mul_right _ h3
  rw [Nat.succ_mul] at h4
  omega
/-- A greater one that has an address of a block has its first one. -/
theorem good_start {x : Pfx} (hx : Good x) {a k y : Nat} (hl : x.len ≤ 16 - (k : Int)) (h : has x y) (h1 : a * 2 ^ k ≤ y) (h2 : y < a * 2 ^ k + 2 ^ k) : has x (a * 2 ^ k) := by
  obtain ⟨b, j, hj, rfl, hb⟩ := hx
  have hkj : k ≤ j := by unfold blk at hl; simp only at hl; omega
  obtain ⟨d, rfl⟩ : ∃ d, j = k + d := ⟨j - k, by omega⟩
  rw [has_blk] at h ⊢
  rw [Nat.pow_add] at h ⊢
  have e1 : b * (2 ^ k * 2 ^ d) = (b * 2 ^ d) * 2 ^ k := by rw [Nat.mul_assoc, Nat.mul_comm (2 ^ d) (2 ^ k)]
  have e2 : 2 ^ k * 2 ^ d = 2 ^ d * 2 ^ k := Nat.mul_comm _ _
  rw [e1, e2] at h ⊢
  have hp := pow_pos' k
  rw [← Nat.add_mul] at h ⊢
  have h3 : b * 2 ^ d < a + 1 := by
    apply Nat.lt_of_mul_lt_mul_right (a := 2 ^ k)
    rw [Nat.succ_mul]; omega
  have h4 : a < b * 2 ^ d + 2 ^ d := by
    apply Nat.lt_of_mul_lt_mul_right (a := 2 ^ k)
    omega
  have h5 : b * 2 ^ d * 2 ^ k ≤ a * 2 ^ k := Nat.mul_le_mul_right _ (by omega)
  have h6 : (a + 1) * 2 ^ k ≤ (b * 2 ^ d + 2 ^ d) * 2 ^ k := Nat.mul_le_mul_right _ h4
  rw [Nat.succ_mul] at h6
  omega
/-- A smaller one that has an address of a block lies in it. -/
theorem good_small {x : Pfx} (hx : Good x) {a k y : Nat} (hl : 16 - (k : Int) ≤ x.len) (h : has x y) (h1 : a * 2 ^ k ≤ y) (h2 : y < a * 2 ^ k + 2 ^ k) : ∃ b : Nat, x.adr = (b : Int) ∧ a * 2 ^ k ≤ b ∧ b + siz x ≤ a * 2 ^ k + 2 ^ k := by
  obtain ⟨b, j, hj, rfl, hb⟩ := hx
  have hkj : j ≤ k := by unfold blk at hl; simp only at hl; omega
  obtain ⟨d, rfl⟩ : ∃ d, k = j + d := ⟨k - j, by omega⟩
  rw [has_blk] at h
  rw [siz_blk]
  refine ⟨b * 2 ^ j, rfl, ?_⟩
  rw [Nat.pow_add] at h1 h2 ⊢
  have e1 : a * (2 ^ j * 2 ^ d) = (a * 2 ^ d) * 2 ^ j := by rw [Nat.mul_assoc, Nat.mul_comm (2 ^ d) (2 ^ j)]
  have e2 : 2 ^ j * 2 ^ d = 2 ^ d * 2 ^ j := Nat.mul_comm _ _
  rw [e1] at h1 h2 ⊢
  rw [e2, ← Nat.add_mul] at h2 ⊢
  have hp := pow_pos' j
  have h3 : a * 2 ^ d < b + 1 := by
    apply Nat.lt_of_mul_lt_mul_right (a := 2 ^ j)
    rw [Nat.succ_mul]; omega
  have h4 : b < a * 2 ^ d + 2 ^ d := by
    apply Nat.lt_of_mul_lt_mul_right (a := 2 ^ j)
    omega
  have h5 : a * 2 ^ d * 2 ^ j ≤ b * 2 ^ j := Nat.mul_le_mul_right _ (by omega)
  have h6 : (b + 1) * 2 ^ j ≤ (a * 2 ^ d + 2 ^ d) * 2 ^ j := Nat.mul_le_mul_right _ h4
  rw [Nat.succ_mul] at h6
  omega
theorem half_start (a k : Nat) : a * 2 ^ (k + 1) = (2 * a) * 2 ^ k ∧ a * 2 ^ (k + 1) + 2 ^ k = (2 * a + 1) * 2 ^ k := by
  have e : a * 2 ^ (k + 1) = (2 * a) * 2 ^ k := by rw [two_pow, Nat.mul_add, Nat.mul_assoc, Nat.two_mul]
  exact ⟨e, by rw [e, Nat.add_mul (2 * a) 1, Nat.one_mul]⟩
theorem half_or (s p y : Nat) (C : Prop) : ((s ≤ y ∧ y < s + p) ∧ C) ∨ ((s + p ≤ y ∧ y < s + p + p) ∧ C) ↔ (s ≤ y ∧ y < s + (p + p)) ∧ C := by
  constructor
  · rintro (⟨h1, h2⟩ | ⟨h1, h2⟩)
    · exact ⟨by omega, h2⟩
    · exact ⟨by omega, h2⟩
  · rintro ⟨h1, h2⟩
    by_cases h3 : y < s + p
    · exact .inl ⟨by omega, h2⟩
    · exact .inr ⟨by omega, h2⟩
theorem good_len {x : Pfx} (hx : Good x) : 0 ≤ x.len ∧ x.len ≤ 16 := by
  obtain ⟨b, j, hj, rfl, hb⟩ := hx
  unfold blk; simp only; omega
theorem good_adr {x : Pfx} (hx : Good x) : ∃ b : Nat, x.adr = (b : Int) ∧ has x b := by
  obtain ⟨b, j, hj, rfl, hb⟩ := hx
  exact ⟨b * 2 ^ j, rfl, (has_blk _ _ _).2 ⟨Nat.le_refl _, by have := pow_pos' j; omega⟩⟩
/-- The fewest have the same addresses. -/
theorem few_cov (l : List Pfx) (hg : ∀ x ∈ l, Good x) : ∀ (k a y : Nat), cov (few l (a * 2 ^ k) k) y ↔ (a * 2 ^ k ≤ y ∧ y < a * 2 ^ k + 2 ^ k) ∧ cov l y
  | k, a, y => by
    unfold few
    split
    · rename_i h
      obtain ⟨x, hx, h1, h2⟩ := h
      rw [cov_one, has_blk]
      exact ⟨fun h3 => ⟨h3, x, hx, good_in (hg x hx) h2 h1 y h3.1 h3.2⟩, fun h3 => h3.1⟩
    · rename_i hno
      split
      · rename_i hnone
        refine ⟨fun h => absurd h (cov_nil y), fun ⟨⟨h1, h2⟩, x, hx, h3⟩ => ?_⟩
        exfalso
        by_cases hl : x.len ≤ 16 - (k : Int)
        · exact hno ⟨x, hx, good_start (hg x hx) hl h3 h1 h2, hl⟩
        · obtain ⟨b, hb, h4, h5⟩ := good_small (hg x hx) (by omega) h3 h1 h2
          have hs : 0 < siz x := pow_pos' _
          exact hnone ⟨x, hx, by omega, by rw [hb, Int.toNat_natCast, has_blk]; omega⟩
      · rename_i hsome
        cases k with
        | zero =>
          exfalso
          obtain ⟨x, hx, h1, h2⟩ := Classical.not_not.1 hsome
          obtain ⟨b, hb, hbb⟩ := good_adr (hg x hx)
          rw [hb, Int.toNat_natCast, has_blk] at h2
          have e : b = a * 2 ^ 0 := by have : (2 : Nat) ^ 0 = 1 := rfl; omega
          exact hno ⟨x, hx, by rw [← e]; exact hbb, by have := good_len (hg x hx); omega⟩
        | succ k =>
          obtain ⟨q1, q2⟩ := half_start a k
          have i1 := few_cov l hg k (2 * a) y
          have i2 := few_cov l hg k (2 * a + 1) y
          rw [← q1] at i1
          rw [← q2] at i2
          have hboth : cov (few l (a * 2 ^ (k + 1)) k ++ few l (a * 2 ^ (k + 1) + 2 ^ k) k) y ↔ (a * 2 ^ (k + 1) ≤ y ∧ y < a * 2 ^ (k + 1) + 2 ^ (k + 1)) ∧ cov l y := by
            rw [cov_append, i1, i2]
            have := half_or (a * 2 ^ (k + 1)) (2 ^ k) y (cov l y)
            rw [← two_pow] at this
            exact this
          simp only
          split
          · rename_i h
            rw [← hboth, h.1, h.2, cov_append, cov_one, cov_one, cov_one, has_blk, has_blk, has_blk]
            have e := two_pow k
            generalize a * 2 ^ (k + 1) = s
            omega
          · exact hboth
/-- How many of some begin in a block. -/
def cnt (l : List Pfx) (a k : Nat) : Nat := l.countP fun x => decide (0 ≤ x.adr) && decide (has (blk a k) x.adr.toNat)
theorem cnt_halves (l : List Pfx) (a k : Nat) : cnt l a (k + 1) = cnt l a k + cnt l (a + 2 ^ k) k := by
  unfold cnt
  induction l with
  | nil => rfl
  | cons x l ih =>
    rw [List.countP_cons, List.countP_cons, List.countP_cons, ih]
    have h1 := has_blk a (k + 1) x.adr.toNat
    have h2 := has_blk a k x.adr.toNat
    have h3 := has_blk (a + 2 ^ k) k x.adr.toNat
    rw [two_pow] at h1
    by_cases h0 : 0 ≤ x.adr
    · by_cases g2 : has (blk a k) x.adr.toNat
      · have g1 : has (blk a (k + 1)) x.adr.toNat := h1.2 (by have := h2.1 g2; omega)
        have g3 : ¬ has (blk (a + 2 ^ k) k) x.adr.toNat := fun h => by have := h2.1 g2; have := h3.1 h; omega
        simp [h0, g1, g2, g3]; omega
      · by_cases g3 : has (blk (a + 2 ^ k) k) x.adr.toNat
        · have g1 : has (blk a (k + 1)) x.adr.toNat := h1.2 (by have := h3.1 g3; omega)
          simp [h0, g1, g2, g3]; omega
        · have g1 : ¬ has (blk a (k + 1)) x.adr.toNat := fun h => by
            have := h1.1 h
            by_cases h4 : x.adr.toNat < a + 2 ^ k
            · exact g2 (h2.2 (by omega))
            · exact g3 (h3.2 (by omega))
          simp [g1, g2, g3]
    · simp [h0]
/-- They are no more than there were. -/
theorem few_len (l : List Pfx) (hg : ∀ x ∈ l, Good x) : ∀ (k a : Nat), (∀ x ∈ l, ¬ (has x (a * 2 ^ k) ∧ x.len < 16 - (k : Int))) → (few l (a * 2 ^ k) k).length ≤ cnt l (a * 2 ^ k) k
  | k, a, hbig => by
    unfold few
    split
    · rename_i h
      obtain ⟨x, hx, h1, h2⟩ := h
      have hl : x.len = 16 - (k : Int) := by
        by_cases h3 : x.len < 16 - (k : Int)
        · exact absurd ⟨h1, h3⟩ (hbig x hx)
        · omega
      obtain ⟨b, hb, h4, h5⟩ := good_small (hg x hx) (by omega) h1 (Nat.le_refl _) (by have := pow_pos' k; omega)
      have hs : 0 < siz x := pow_pos' _
      have : 0 < cnt l (a * 2 ^ k) k := List.countP_pos_iff.2 ⟨x, hx, by
        rw [hb, Int.toNat_natCast]
        have : has (blk (a * 2 ^ k) k) b := (has_blk _ _ _).2 (by omega)
        simp [this]⟩
      simp only [List.length_singleton]
      omega
    · rename_i hno
      split
      · exact Nat.zero_le _
      · rename_i hsome
        cases k with
        | zero => exact Nat.zero_le _
        | succ k =>
          obtain ⟨q1, q2⟩ := half_start a k
          have hb1 : ∀ x ∈ l, ¬ (has x (2 * a * 2 ^ k) ∧ x.len < 16 - (k : Int)) := fun x hx ⟨h1, h2⟩ => hno ⟨x, hx, by rw [q1]; exact h1, by omega⟩
          have hb2 : ∀ x ∈ l, ¬ (has x ((2 * a + 1) * 2 ^ k) ∧ x.len < 16 - (k : Int)) := fun x hx ⟨h1, h2⟩ => hno ⟨x, hx, by
            refine good_start (hg x hx) (a := a) (k := k + 1) (by omega) h1 ?_ ?_
            · rw [← q2]; exact Nat.le_add_right _ _
            · rw [← q2]; have := pow_pos' k; have := two_pow k; generalize a * 2 ^ (k + 1) = s; omega, by omega⟩
          have i1 := few_len l hg k (2 * a) hb1
          have i2 := few_len l hg k (2 * a + 1) hb2
          rw [← q1] at i1
          rw [← q2] at i2
          have hc := cnt_halves l (a * 2 ^ (k + 1)) k
          simp only
          split
          · rename_i h
            rw [h.1] at i1
            simp only [List.length_singleton] at i1 ⊢
            omega
          · rw [List.length_append]; omega

instance (l : List Pfx) (a : Nat) : Decidable (cov l a) := by unfold cov; infer_instance
/-- How many addresses of a stretch some have. -/
def many (l : List Pfx) (a n : Nat) : Nat := (List.range' a n).countP fun y => decide (cov l y)
def total (l : List Pfx) : Nat := (l.map siz).sum
theorem many_add (l : List Pfx) (a m n : Nat) : many l a (m + n) = many l a m + many l (a + m) n := by
  unfold many
  rw [← List.range'_append_1, List.countP_append]
theorem many_congr (l m : List Pfx) (a n : Nat) (h : ∀ y, a ≤ y → y < a + n → (cov l y ↔ cov m y)) : many l a n = many m a n := by
  unfold many
  refine List.countP_congr fun y hy => ?_
  rw [List.mem_range'_1] at hy
  simp [h y hy.1 hy.2]
theorem Can.total {a k : Nat} {l : List Pfx} (h : Can a k l) : many l a (2 ^ k) = total l := by
  induction h with
  | none a k =>
    unfold many CidrMath.total
    rw [List.countP_eq_zero.2 fun y _ => by simp [cov_nil]]; rfl
  | whole a k =>
    unfold many CidrMath.total
    rw [List.countP_eq_length.2 fun y hy => by
      rw [List.mem_range'_1] at hy
      simp only [decide_eq_true_eq]
      exact (cov_one _ _).2 ((has_blk a k y).2 hy)]
    simp [siz_blk]
  | @halves a k l m hl hm hn ih1 ih2 =>
    rw [two_pow, many_add]
    rw [many_congr (l ++ m) l a (2 ^ k) fun y h1 h2 => by
      rw [cov_append]
      exact ⟨fun h => h.elim id (fun h => absurd (hm.inside y h) (by omega)), .inl⟩]
    rw [many_congr (l ++ m) m (a + 2 ^ k) (2 ^ k) fun y h1 h2 => by
      rw [cov_append]
      exact ⟨fun h => h.elim (fun h => absurd (hl.inside y h) (by omega)) id, .inr⟩]
    rw [ih1, ih2]
    unfold CidrMath.total
    rw [List.map_append, List.sum_append]
theorem many_le (l m : List Pfx) (a n : Nat) (h : ∀ y, cov l y → cov m y) : many l a n ≤ many m a n :=
  List.countP_mono_left fun y _ hy => by simp only [decide_eq_true_eq] at hy ⊢; exact h y hy
theorem many_both (l m : List Pfx) (a n : Nat) : many (l ++ m) a n ≤ many l a n + many m a n := by
  unfold many
  induction List.range' a n with
  | nil => simp
  | cons y r ih =>
    rw [List.countP_cons, List.countP_cons, List.countP_cons]
    have := cov_append l m y
    by_cases h1 : cov l y
    · have h3 : cov (l ++ m) y := this.2 (.inl h1)
      simp only [h1, h3, decide_true, if_true]; omega
    · by_cases h2 : cov m y
      · have h3 : cov (l ++ m) y := this.2 (.inr h2)
        simp only [h2, h3, decide_true, if_true]; omega
      · have h3 : ¬ cov (l ++ m) y := fun h => (this.1 h).elim h1 h2
        simp only [h1, h2, h3, decide_false, Bool.false_eq_true, if_false]; omega
theorem many_top (l : List Pfx) (a n : Nat) : many l a n ≤ n := by
  have := List.countP_le_length (p := fun y => decide (cov l y)) (l := List.range' a n)
  unfold many
  rwa [List.length_range'] at this

/-- One before another: it ends before the other begins, and they are not two halves of one. -/
def Step (x y : Pfx) : Prop := x.adr + siz x ≤ y.adr ∧ ¬ (x.len = y.len ∧ y.adr = x.adr + siz x ∧ x.adr % (2 * siz x) = 0)
theorem Can.members {a k : Nat} {l : List Pfx} (h : Can a k l) : ∀ c, a = c * 2 ^ k → ∀ x ∈ l, ∃ d j : Nat, j ≤ k ∧ x = blk (d * 2 ^ j) j ∧ a ≤ d * 2 ^ j ∧ d * 2 ^ j + 2 ^ j ≤ a + 2 ^ k := by
  induction h with
  | none a k => intro c hc x hx; simp at hx
  | whole a k =>
    intro c hc x hx
    rw [List.mem_singleton] at hx
    exact ⟨c, k, Nat.le_refl _, by rw [hx, hc], by omega, by omega⟩
  | @halves a k l m hl hm hn ih1 ih2 =>
    intro c hc x hx
    obtain ⟨q1, q2⟩ := half_start c k
    have e := two_pow k
    have := pow_pos' k
    rcases List.mem_append.1 hx with h | h
    · obtain ⟨d, j, h1, h2, h3, h4⟩ := ih1 (2 * c) (by rw [hc, q1]) x h
      exact ⟨d, j, by omega, h2, h3, by omega⟩
    · obtain ⟨d, j, h1, h2, h3, h4⟩ := ih2 (2 * c + 1) (by rw [hc, q2]) x h
      exact ⟨d, j, by omega, h2, by omega, by omega⟩
theorem Can.good {a k : Nat} {l : List Pfx} (h : Can a k l) (c : Nat) (hc : a = c * 2 ^ k) (hk : k ≤ 16) (ha : a + 2 ^ k ≤ 65536) : ∀ x ∈ l, Good x := fun x hx => by
  obtain ⟨d, j, h1, h2, h3, h4⟩ := h.members c hc x hx
  exact ⟨d, j, by omega, h2, by have := pow_pos' j; omega⟩
theorem Can.only {a k : Nat} {l : List Pfx} (h : Can a k l) (hx : blk a k ∈ l) : l = [blk a k] :=
  h.full fun x h1 h2 => ⟨_, hx, (has_blk a k x).2 ⟨h1, h2⟩⟩
theorem even_not (d j : Nat) (h : d % 2 = 1) : d * 2 ^ j % (2 * 2 ^ j) ≠ 0 := by
  rw [Nat.mul_mod_mul_right, h]; have := pow_pos' j; omega
theorem Can.pair {a k : Nat} {l : List Pfx} (h : Can a k l) : ∀ c, a = c * 2 ^ k → l.Pairwise Step := by
  induction h with
  | none a k => intro c hc; exact .nil
  | whole a k => intro c hc; exact List.pairwise_singleton _ _
  | @halves a k l m hl hm hn ih1 ih2 =>
    intro c hc
    obtain ⟨q1, q2⟩ := half_start c k
    rw [← hc] at q1 q2
    refine List.pairwise_append.2 ⟨ih1 (2 * c) q1, ih2 (2 * c + 1) q2, fun x hx y hy => ?_⟩
    obtain ⟨d, j, h1, rfl, h3, h4⟩ := hl.members _ q1 x hx
    obtain ⟨e, i, g1, rfl, g3, g4⟩ := hm.members _ q2 y hy
    refine ⟨?_, ?_⟩
    · rw [siz_blk]; unfold blk; simp only; omega
    · rintro ⟨r1, r2, r3⟩
      have hij : i = j := by unfold blk at r1; simp only at r1; omega
      subst hij
      rw [siz_blk] at r2 r3
      unfold blk at r2 r3
      simp only at r2 r3
      have r2' : e * 2 ^ i = d * 2 ^ i + 2 ^ i := by omega
      have r3' : d * 2 ^ i % (2 * 2 ^ i) = 0 := by exact_mod_cast r3
      have t1 : d * 2 ^ i + 2 ^ i = a + 2 ^ k := by omega
      by_cases hik : i = k
      · subst hik
        apply hn
        refine ⟨hl.only ?_, hm.only ?_⟩
        · rw [show a = d * 2 ^ i by omega]; exact hx
        · rw [show a + 2 ^ i = e * 2 ^ i by omega]; exact hy
      · obtain ⟨t, rfl⟩ : ∃ t, k = i + (t + 1) := ⟨k - i - 1, by omega⟩
        refine even_not d i ?_ r3'
        rw [← Nat.succ_mul] at t1
        rw [q2, Nat.pow_add, Nat.mul_comm (2 ^ i), ← Nat.mul_assoc] at t1
        have t2 : d.succ = (2 * c + 1) * 2 ^ (t + 1) := Nat.eq_of_mul_eq_mul_right (pow_pos' i) t1
        rw [Nat.pow_succ, ← Nat.mul_assoc] at t2
        omega
theorem cut_at (P : Pfx → Prop) [DecidablePred P] (l : List Pfx) (h : l.Pairwise fun x y => P y → P x) : ∃ l1 l2, l = l1 ++ l2 ∧ (∀ x ∈ l1, P x) ∧ ∀ x ∈ l2, ¬ P x := by
  induction l with
  | nil => exact ⟨[], [], rfl, by simp, by simp⟩
  | cons x l ih =>
    rw [List.pairwise_cons] at h
    obtain ⟨l1, l2, e, h1, h2⟩ := ih h.2
    by_cases hp : P x
    · exact ⟨x :: l1, l2, by rw [e]; rfl, fun y hy => by
        rcases List.mem_cons.1 hy with rfl | hy
        · exact hp
        · exact h1 y hy, h2⟩
    · exact ⟨[], x :: l, rfl, by simp, fun y hy => by
        rcases List.mem_cons.1 hy with rfl | hy
        · exact hp
        · exact fun hpy => hp (h.1 y hy hpy)⟩
theorem siz_pos (x : Pfx) : 0 < siz x := pow_pos' _
/-- What is in order, apart, and has no two halves, is the fewest. -/
theorem can_of (l : List Pfx) : ∀ (k c : Nat), (∀ x ∈ l, ∃ d j : Nat, j ≤ k ∧ x = blk (d * 2 ^ j) j ∧ c * 2 ^ k ≤ d * 2 ^ j ∧ d * 2 ^ j + 2 ^ j ≤ c * 2 ^ k + 2 ^ k) → l.Pairwise Step → Can (c * 2 ^ k) k l
  | k, c, hin, hp => by
    by_cases hw : blk (c * 2 ^ k) k ∈ l
    · obtain ⟨s, t, rfl⟩ := List.append_of_mem hw
      have hs : s = [] := by
        cases s with
        | nil => rfl
        | cons x s =>
          exfalso
          obtain ⟨d, j, h1, rfl, h3, h4⟩ := hin x (by simp)
          rw [List.pairwise_append] at hp
          have := (hp.2.2 _ (List.mem_cons_self) _ (List.mem_cons_self)).1
          rw [siz_blk] at this
          unfold blk at this
          simp only at this
          have := pow_pos' j
          omega
      subst hs
      have ht : t = [] := by
        cases t with
        | nil => rfl
        | cons x t =>
          exfalso
          obtain ⟨d, j, h1, rfl, h3, h4⟩ := hin x (by simp)
          rw [List.nil_append, List.pairwise_cons] at hp
          have := (hp.1 _ (List.mem_cons_self)).1
          rw [siz_blk] at this
          unfold blk at this
          simp only at this
          have := pow_pos' j
          omega
      subst ht
      exact .whole _ _
    · cases k with
      | zero =>
        cases l with
        | nil => exact .none _ _
        | cons x l =>
          exfalso
          obtain ⟨d, j, h1, rfl, h3, h4⟩ := hin x (by simp)
          obtain rfl : j = 0 := by omega
          apply hw
          have : (2 : Nat) ^ 0 = 1 := rfl
          rw [show c * 2 ^ 0 = d * 2 ^ 0 by omega]
          simp
      | succ k =>
        obtain ⟨q1, q2⟩ := half_start c k
        have e := two_pow k
        have hj : ∀ x ∈ l, ∃ d j : Nat, j ≤ k ∧ x = blk (d * 2 ^ j) j ∧ c * 2 ^ (k + 1) ≤ d * 2 ^ j ∧ d * 2 ^ j + 2 ^ j ≤ c * 2 ^ (k + 1) + 2 ^ (k + 1) := fun x hx => by
          obtain ⟨d, j, h1, h2, h3, h4⟩ := hin x hx
          refine ⟨d, j, ?_, h2, h3, h4⟩
          by_cases hjk : j = k + 1
          · subst hjk
            exact absurd (by rw [show c * 2 ^ (k + 1) = d * 2 ^ (k + 1) by omega, ← h2]; exact hx) hw
          · omega
        obtain ⟨l1, l2, rfl, hl1, hl2⟩ := cut_at (fun x => x.adr < (c * 2 ^ (k + 1) + 2 ^ k : Nat)) l (hp.imp fun {x y} hxy hy => by have := hxy.1; have := siz_pos x; omega)
        have hhalf : ∀ d j : Nat, j ≤ k → d * 2 ^ j < (2 * c + 1) * 2 ^ k → d * 2 ^ j + 2 ^ j ≤ (2 * c + 1) * 2 ^ k := fun d j hjk hlt => by
          obtain ⟨t, rfl⟩ : ∃ t, k = j + t := ⟨k - j, by omega⟩
          rw [Nat.pow_add, Nat.mul_comm (2 ^ j), ← Nat.mul_assoc] at hlt ⊢
          have := Nat.lt_of_mul_lt_mul_right hlt
          rw [← Nat.succ_mul]
          exact Nat.mul_le_mul_right _ this
        rw [List.pairwise_append] at hp
        have c1 := can_of l1 k (2 * c) (fun x hx => by
          obtain ⟨d, j, h1, rfl, h3, h4⟩ := hj x (List.mem_append_left _ hx)
          refine ⟨d, j, h1, rfl, by rw [← q1]; exact h3, ?_⟩
          have := hl1 _ hx
          rw [q2] at this
          have := hhalf d j h1 (by unfold blk at this; simp only at this; omega)
          rw [← q1, q2]; exact this) hp.1
        have c2 := can_of l2 k (2 * c + 1) (fun x hx => by
          obtain ⟨d, j, h1, rfl, h3, h4⟩ := hj x (List.mem_append_right _ hx)
          have := hl2 _ hx
          unfold blk at this; simp only at this
          refine ⟨d, j, h1, rfl, by rw [← q2]; omega, by rw [← q2]; omega⟩) hp.2.1
        rw [← q1] at c1
        rw [← q2] at c2
        refine .halves c1 c2 fun ⟨e1, e2⟩ => ?_
        have := hp.2.2 (blk (c * 2 ^ (k + 1)) k) (by rw [e1]; simp) (blk (c * 2 ^ (k + 1) + 2 ^ k) k) (by rw [e2]; simp)
        refine this.2 ⟨rfl, ?_, ?_⟩
        · rw [siz_blk]; unfold blk; simp only; omega
        · rw [siz_blk, q1]; unfold blk; simp only
          have : 2 * c * 2 ^ k % (2 * 2 ^ k) = 0 := by rw [Nat.mul_mod_mul_right]; simp
          exact_mod_cast this

/-- What is wrong with a prefix. -/
def code (x : Pfx) : Int := if 0 ≤ x.adr ∧ x.adr ≤ 65535 ∧ 0 ≤ x.len ∧ x.len ≤ 16 then (if x.adr % (siz x : Int) = 0 then 0 else 3) else 1
theorem good_iff (x : Pfx) : code x = 0 ↔ Good x := by
  constructor
  · intro h
    unfold code at h
    by_cases h1 : 0 ≤ x.adr ∧ x.adr ≤ 65535 ∧ 0 ≤ x.len ∧ x.len ≤ 16
    · rw [if_pos h1] at h
      by_cases h2 : x.adr % (siz x : Int) = 0
      · obtain ⟨a, l⟩ := x
        simp only at h1
        obtain ⟨b, rfl⟩ := Int.eq_ofNat_of_zero_le h1.1
        obtain ⟨k, hk, rfl⟩ : ∃ k : Nat, k ≤ 16 ∧ l = 16 - (k : Int) := ⟨(16 - l).toNat, by omega, by omega⟩
        have e : siz ⟨(b : Int), 16 - (k : Int)⟩ = 2 ^ k := siz_blk b k
        rw [e] at h2
        have h2' : (b : Int) % ((2 ^ k : Nat) : Int) = 0 := h2
        have h3 : b % 2 ^ k = 0 := by exact_mod_cast h2'
        have h4 : b / 2 ^ k * 2 ^ k = b := Nat.div_mul_cancel (Nat.dvd_of_mod_eq_zero h3)
        exact ⟨b / 2 ^ k, k, hk, by rw [h4]; rfl, by rw [h4]; omega⟩
      · rw [if_neg h2] at h; exact absurd h (by decide)
    · rw [if_neg h1] at h; exact absurd h (by decide)
  · rintro ⟨a, k, hk, rfl, ha⟩
    unfold code
    have e : siz (blk (a * 2 ^ k) k) = 2 ^ k := siz_blk _ k
    rw [e]
    unfold blk
    simp only
    rw [if_pos (by omega), if_pos]
    have : a * 2 ^ k % 2 ^ k = 0 := Nat.mul_mod_left _ _
    exact_mod_cast this

theorem good_mem {x : Pfx} (h : Good x) : ∃ d j : Nat, j ≤ 16 ∧ x = blk (d * 2 ^ j) j ∧ d * 2 ^ j + 2 ^ j ≤ 65536 := by
  obtain ⟨a, k, hk, rfl, ha⟩ := h
  refine ⟨a, k, hk, rfl, ?_⟩
  obtain ⟨t, ht⟩ : ∃ t, 16 = k + t := ⟨16 - k, by omega⟩
  have e : (65536 : Nat) = 2 ^ t * 2 ^ k := by rw [← Nat.pow_add, Nat.add_comm, ← ht]
  rw [e] at ha ⊢
  have := Nat.lt_of_mul_lt_mul_right ha
  rw [← Nat.succ_mul]
  exact Nat.mul_le_mul_right _ this
theorem good_lt {x : Pfx} (h : Good x) {y : Nat} (hy : has x y) : y < 65536 := by
  obtain ⟨d, j, hj, rfl, h1⟩ := good_mem h
  have := (has_blk _ _ _).1 hy
  omega
/-- The fewest of some. -/
def few0 (l : List Pfx) : List Pfx := few l 0 16
theorem few0_can (l : List Pfx) : Can 0 16 (few0 l) := few_can l 16 0
theorem few0_cov (l : List Pfx) (hg : ∀ x ∈ l, Good x) (y : Nat) : cov (few0 l) y ↔ cov l y := by
  have := few_cov l hg 16 0 y
  rw [Nat.zero_mul] at this
  unfold few0
  rw [this]
  refine ⟨fun h => h.2, fun h => ⟨?_, h⟩⟩
  obtain ⟨x, hx, hy⟩ := h
  have := good_lt (hg x hx) hy
  exact ⟨Nat.zero_le _, by simpa using this⟩
theorem few0_good (l : List Pfx) : ∀ x ∈ few0 l, Good x := (few0_can l).good 0 (by simp) (by omega) (by simp)
theorem few0_pair (l : List Pfx) : (few0 l).Pairwise Step := (few0_can l).pair 0 (by simp)
theorem few0_same (l m : List Pfx) (hl : ∀ x ∈ l, Good x) (hm : ∀ x ∈ m, Good x) (h : ∀ y, cov l y ↔ cov m y) : few0 l = few0 m :=
  (few0_can l).one (few0_can m) fun y => by rw [few0_cov l hl, few0_cov m hm, h]
/-- What is good, in order, apart, without halves, and has the same addresses, is the fewest. -/
theorem few0_of (l m : List Pfx) (hl : ∀ x ∈ l, Good x) (hm : ∀ x ∈ m, Good x) (hp : m.Pairwise Step) (h : ∀ y, cov m y ↔ cov l y) : m = few0 l := by
  have c := can_of m 16 0 (fun x hx => by
    obtain ⟨d, j, hj, e, h1⟩ := good_mem (hm x hx)
    exact ⟨d, j, hj, e, by simp, by simpa using h1⟩) hp
  rw [Nat.zero_mul] at c
  exact c.one (few0_can l) fun y => by rw [few0_cov l hl, h]
theorem few0_again (l : List Pfx) (hl : ∀ x ∈ l, Good x) : few0 (few0 l) = few0 l := few0_same _ _ (few0_good l) hl fun y => few0_cov l hl y
theorem few0_one (l : List Pfx) (x : Pfx) (hl : ∀ x ∈ l, Good x) (hx : Good x) (h : ∀ y, cov l y ↔ has x y) : few0 l = [x] :=
  (few0_of l [x] hl (fun y hy => by rw [List.mem_singleton.1 hy]; exact hx) (List.pairwise_singleton _ _) fun y => by rw [cov_one, h]).symm
theorem few0_len (l : List Pfx) (hg : ∀ x ∈ l, Good x) : (few0 l).length ≤ l.length := by
  have := few_len l hg 16 0 (fun x hx ⟨h1, h2⟩ => by have := good_len (hg x hx); omega)
  rw [Nat.zero_mul] at this
  exact Nat.le_trans this List.countP_le_length
theorem few0_total (l : List Pfx) (hg : ∀ x ∈ l, Good x) : total (few0 l) = many l 0 65536 := by
  have := (few0_can l).total
  rw [← this]
  exact many_congr _ _ _ _ fun y _ _ => few0_cov l hg y
/-- How many of some that are apart have an address: none or one. -/
theorem count_apart (l : List Pfx) (hp : l.Pairwise Step) (y : Nat) : l.countP (fun x => decide (has x y)) = if cov l y then 1 else 0 := by
  induction l with
  | nil => rw [if_neg (cov_nil y)]; rfl
  | cons x l ih =>
    rw [List.pairwise_cons] at hp
    rw [List.countP_cons, ih hp.2]
    by_cases h1 : has x y
    · have h2 : ¬ cov l y := fun ⟨z, hz, h3⟩ => by
        have := (hp.1 z hz).1
        unfold has at h1 h3
        omega
      rw [if_neg h2, if_pos (by simpa using h1), if_pos ⟨x, by simp, h1⟩]
    · rw [if_neg (c := decide (has x y) = true) (by simpa using h1)]
      by_cases h2 : cov l y
      · have h3 : cov (x :: l) y := by
          obtain ⟨z, hz, h⟩ := h2
          exact ⟨z, List.mem_cons_of_mem _ hz, h⟩
        rw [if_pos h2, if_pos h3]
      · have h3 : ¬ cov (x :: l) y := fun ⟨z, hz, h⟩ => by
          rcases List.mem_cons.1 hz with rfl | hz
          · exact h1 h
          · exact h2 ⟨z, hz, h⟩
        rw [if_neg h2, if_neg h3]
/-- The two halves of a prefix. -/
theorem has_halves (a k y : Nat) : has (blk a (k + 1)) y ↔ has (blk a k) y ∨ has (blk (a + 2 ^ k) k) y := by
  rw [has_blk, has_blk, has_blk, two_pow]; omega
end Go.Proofs.Ytlojehakifagbaa.CidrMath
