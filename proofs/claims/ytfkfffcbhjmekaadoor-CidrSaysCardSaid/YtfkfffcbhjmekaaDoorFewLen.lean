/- What the document's way to the fewest wants of numbers. No statement is proved here. -/
import Derived.Test.YtfkfffcbhjmekaaDoorCidrMath
namespace Go.Proofs.YtfkfffcbhjmekaaDoor.CidrMath
set_option linter.unusedVariables false

theorem few_le (l : List Pfx) : ∀ (k a : Nat), (few l a k).length ≤ 2 ^ k
  | k, a => by
    have hp := pow_pos' k
    unfold few
    split
    · simp; omega
    · split
      · simp
      · match k with
        | 0 => simp
        | k + 1 =>
          simp only
          split
          · simp; omega
          · have h1 := few_le l k a
            have h2 := few_le l k (a + 2 ^ k)
            rw [List.length_append, two_pow]; omega
/-- The whole block: one prefix of its length. -/
theorem few_whole (l : List Pfx) (c k : Nat) : (few l (c * 2 ^ k) k).length = 1 ∧ (∀ y, (few l (c * 2 ^ k) k)[0]? = some y → y.len = 16 - (k : Int)) ↔ few l (c * 2 ^ k) k = [blk (c * 2 ^ k) k] := by
  constructor
  · rintro ⟨h1, h2⟩
    obtain ⟨y, hy⟩ := List.length_eq_one_iff.1 h1
    have h3 := h2 y (by rw [hy]; rfl)
    obtain ⟨d, j, hj, e, h4, h5⟩ := (few_can l k (c * 2 ^ k)).members c rfl y (by rw [hy]; simp)
    have hjk : j = k := by
      have : (16 : Int) - (j : Int) = 16 - (k : Int) := by rw [← h3, e]; rfl
      omega
    subst hjk
    rw [hy, e, show d * 2 ^ j = c * 2 ^ j by omega]
  · intro h
    rw [h]
    exact ⟨rfl, fun y hy => by have := Option.some.inj hy; rw [← this]; rfl⟩
theorem few_hit {l : List Pfx} {a k : Nat} (h : ∃ x ∈ l, has x a ∧ x.len ≤ 16 - (k : Int)) : few l a k = [blk a k] := by unfold few; rw [if_pos h]
theorem few_none {l : List Pfx} {a k : Nat} (h : ¬ ∃ x ∈ l, has x a ∧ x.len ≤ 16 - (k : Int)) (h2 : ¬ ∃ x ∈ l, 0 ≤ x.adr ∧ has (blk a k) x.adr.toNat) : few l a k = [] := by unfold few; rw [if_neg h, if_pos h2]
theorem few_parts {l : List Pfx} {a k : Nat} (h : ¬ ∃ x ∈ l, has x a ∧ x.len ≤ 16 - ((k + 1 : Nat) : Int)) (h2 : ∃ x ∈ l, 0 ≤ x.adr ∧ has (blk a (k + 1)) x.adr.toNat) :
    few l a (k + 1) = if few l a k = [blk a k] ∧ few l (a + 2 ^ k) k = [blk (a + 2 ^ k) k] then [blk a (k + 1)] else few l a k ++ few l (a + 2 ^ k) k := by
  conv => lhs; unfold few
  rw [if_neg h, if_neg (fun hn => hn h2)]
/-- A single address: what begins there has it. -/
theorem few_leaf {l : List Pfx} (hg : ∀ x ∈ l, Good x) {a : Nat} (h2 : ∃ x ∈ l, 0 ≤ x.adr ∧ has (blk a 0) x.adr.toNat) : ∃ x ∈ l, has x a ∧ x.len ≤ 16 - ((0 : Nat) : Int) := by
  obtain ⟨x, hx, h0, h1⟩ := h2
  have hgx := hg x hx
  obtain ⟨b, hb, hh⟩ := good_adr hgx
  rw [has_blk] at h1
  have h3 := good_len hgx
  have : b = a := by
    have : x.adr.toNat = b := by rw [hb]; rfl
    rw [this] at h1
    have h4 : b < a + 2 ^ 0 := h1.2
    rw [Nat.pow_zero] at h4
    omega
  subst this
  exact ⟨x, hx, hh, by omega⟩
end Go.Proofs.YtfkfffcbhjmekaaDoor.CidrMath
