/- A list of prefixes that grows, prefix by prefix in order, and stays the fewest. No statement is proved here. -/
import Derived.Test.YtapaglapngbbpaaCidrMath
namespace Go.Proofs.Ytapaglapngbbpaa.CidrMath
set_option linter.unusedVariables false

def Before (x y : Pfx) : Prop := x.adr < y.adr ∨ x.adr = y.adr ∧ x.len < y.len
def Halves (x y : Pfx) : Prop := x.len = y.len ∧ y.adr = x.adr + siz x ∧ x.adr % (2 * siz x) = 0
theorem nest {x y : Pfx} (hx : Good x) (hy : Good y) (hl : x.len ≤ y.len) {a : Nat} (h1 : has x a) (h2 : has y a) : ∀ b, has y b → has x b := by
  obtain ⟨d, j, hj, rfl, hb⟩ := good_mem hy
  have hl' : x.len ≤ 16 - (j : Int) := hl
  rw [has_blk] at h2
  have h3 := good_start hx hl' h1 h2.1 h2.2
  intro b hb2
  rw [has_blk] at hb2
  exact good_in hx hl' h3 b hb2.1 hb2.2

theorem even_cast (a b : Nat) : (a : Int) % (2 * (b : Int)) = 0 ↔ a % (2 * b) = 0 := by
  rw [show (2 * (b : Int)) = ((2 * b : Nat) : Int) by simp]
  exact ⟨fun h => Int.ofNat.inj h, fun h => congrArg Int.ofNat h⟩
structure Inv (P L : List Pfx) : Prop where
  good : ∀ x ∈ L, Good x
  step : L.Pairwise Step
  cov : ∀ a, cov L a ↔ cov P a
  src : ∀ y ∈ L, ∃ q ∈ P, q.adr = y.adr ∧ y.len ≤ q.len
  len : L.length ≤ P.length
/-- The last one may yet be the second half of the one ahead. -/
structure Mid (P L : List Pfx) (z : Pfx) : Prop where
  good : ∀ x ∈ L, Good x
  goodz : Good z
  step : L.Pairwise Step
  ends : ∀ x ∈ L, x.adr + siz x ≤ z.adr
  cov : ∀ a, CidrMath.cov (L ++ [z]) a ↔ CidrMath.cov P a
  src : ∀ y ∈ L ++ [z], ∃ q ∈ P, q.adr = y.adr ∧ y.len ≤ q.len
  len : L.length + 1 ≤ P.length
theorem Inv.nil : Inv [] [] := ⟨fun _ h => by simp at h, List.Pairwise.nil, fun _ => Iff.rfl, fun _ h => by simp at h, by simp⟩
theorem Inv.skip {P L : List Pfx} {y p : Pfx} (h : Inv P (L ++ [y])) (ho : ∀ q ∈ P, ¬ Before p q) (hp : Good p) (hy : y.adr ≤ p.adr ∧ p.adr < y.adr + siz y) : Inv (P ++ [p]) (L ++ [y]) := by
  have gy := h.good y (by simp)
  obtain ⟨b, hb, hpb⟩ := good_adr hp
  have hyb : has y b := ⟨by omega, by omega⟩
  have all : ∀ a, has p a → has y a := by
    by_cases hl : y.len ≤ p.len
    · exact nest gy hp hl hyb hpb
    · exfalso
      obtain ⟨c, hc, hyc⟩ := good_adr gy
      have := nest hp gy (by omega) hpb hyb c hyc
      have h1 : p.adr ≤ c := this.1
      obtain ⟨q, hq, e1, e2⟩ := h.src y (by simp)
      exact ho q hq (.inr ⟨by omega, by omega⟩)
  refine ⟨h.good, h.step, fun a => ?_, fun x hx => ?_, ?_⟩
  · rw [cov_append P, ← h.cov a, cov_one]
    constructor
    · exact .inl
    · rintro (h1 | h1)
      · exact h1
      · exact ⟨y, by simp, all a h1⟩
  · obtain ⟨q, hq, e⟩ := h.src x hx
    exact ⟨q, by simp [hq], e⟩
  · have := h.len; simp only [List.length_append, List.length_singleton] at this ⊢; omega
theorem Inv.push {P L : List Pfx} {p : Pfx} (h : Inv P L) (ho : ∀ q ∈ P, ¬ Before p q) (hp : Good p) (hn : ∀ L0 y, L = L0 ++ [y] → ¬ (y.adr ≤ p.adr ∧ p.adr < y.adr + siz y)) : Mid (P ++ [p]) L p := by
  refine ⟨h.good, hp, h.step, ?_, fun a => ?_, fun y hy => ?_, ?_⟩
  · rcases List.eq_nil_or_concat L with rfl | ⟨L0, y, rfl⟩
    · intro x hx; simp at hx
    · rw [List.concat_eq_append] at *
      have hny := hn L0 y rfl
      obtain ⟨q, hq, e1, e2⟩ := h.src y (by simp)
      have hq2 : ¬ (p.adr < q.adr) := fun h => ho q hq (.inl h)
      have hye : y.adr + siz y ≤ p.adr := by omega
      have hs := siz_pos y
      intro x hx
      rw [List.mem_append, List.mem_singleton] at hx
      rcases hx with hx | rfl
      · have := (List.pairwise_append.1 h.step).2.2 x hx y (by simp)
        have h1 := this.1
        omega
      · exact hye
  · rw [cov_append, cov_append, h.cov a]
  · rw [List.mem_append, List.mem_singleton] at hy
    rcases hy with hy | rfl
    · obtain ⟨q, hq, e⟩ := h.src y hy
      exact ⟨q, by simp [hq], e⟩
    · exact ⟨y, by simp, rfl, Int.le_refl _⟩
  · have := h.len; simp; exact this
theorem Mid.merge {P L : List Pfx} {y z : Pfx} (h : Mid P (L ++ [y]) z) (hh : Halves y z) : Mid P L ⟨y.adr, y.len - 1⟩ := by
  have gy := h.good y (by simp)
  obtain ⟨d, j, hj, rfl, hb⟩ := good_mem gy
  obtain ⟨e, i, hi, rfl, hb2⟩ := good_mem h.goodz
  obtain ⟨h1, h2, h3⟩ := hh
  have hij : i = j := by
    have : (16 : Int) - (j : Int) = 16 - (i : Int) := h1
    omega
  subst hij
  rw [siz_blk] at h2 h3
  have h2' : e * 2 ^ i = d * 2 ^ i + 2 ^ i := by
    have : ((e * 2 ^ i : Nat) : Int) = ((d * 2 ^ i : Nat) : Int) + ((2 ^ i : Nat) : Int) := h2
    omega
  have h3' : d * 2 ^ i % (2 * 2 ^ i) = 0 := (even_cast _ _).1 h3
  have hd : d % 2 = 0 := by
    rcases Nat.mod_two_eq_zero_or_one d with h | h
    · exact h
    · exact absurd h3' (even_not d i h)
  obtain ⟨c, rfl⟩ : ∃ c, d = 2 * c := ⟨d / 2, by omega⟩
  have hi16 : i + 1 ≤ 16 := by
    rcases Nat.lt_or_ge i 16 with h | h
    · omega
    · have : i = 16 := by omega
      subst this
      omega
  have ea : 2 * c * 2 ^ i = c * 2 ^ (i + 1) := by rw [Nat.pow_succ, Nat.mul_comm 2 c, Nat.mul_assoc, Nat.mul_comm 2 (2 ^ i)]
  have ey : (⟨(blk (2 * c * 2 ^ i) i).adr, (blk (2 * c * 2 ^ i) i).len - 1⟩ : Pfx) = blk (c * 2 ^ (i + 1)) (i + 1) := by
    unfold blk
    simp only [ea, Pfx.mk.injEq, true_and]
    omega
  rw [ey]
  have hp := pow_pos' i
  refine ⟨fun x hx => h.good x (by simp [hx]), ⟨c, i + 1, hi16, rfl, by rw [← ea]; omega⟩, (List.pairwise_append.1 h.step).1, fun x hx => ?_, fun a => ?_, fun x hx => ?_, ?_⟩
  · have := ((List.pairwise_append.1 h.step).2.2 x hx (blk (2 * c * 2 ^ i) i) (by simp)).1
    rw [ea] at this
    exact this
  · rw [← h.cov a, cov_append, cov_append, cov_append, cov_one, cov_one, cov_one, has_halves, ← ea, ← h2', or_assoc]
  · rw [List.mem_append, List.mem_singleton] at hx
    rcases hx with hx | rfl
    · exact h.src x (by simp [hx])
    · obtain ⟨q, hq, e1, e2⟩ := h.src (blk (2 * c * 2 ^ i) i) (by simp)
      refine ⟨q, hq, by rw [e1, ea]; rfl, ?_⟩
      have e3 : (16 : Int) - (i : Int) ≤ q.len := e2
      show (16 : Int) - ((i + 1 : Nat) : Int) ≤ q.len
      omega
  · have := h.len; rw [List.length_append] at this; simp only [List.length_singleton] at this; omega
theorem Mid.done {P L : List Pfx} {z : Pfx} (h : Mid P L z) (hn : ∀ L0 y, L = L0 ++ [y] → ¬ Halves y z) : Inv P (L ++ [z]) := by
  refine ⟨fun x hx => ?_, ?_, h.cov, h.src, by rw [List.length_append]; exact h.len⟩
  · rw [List.mem_append, List.mem_singleton] at hx
    rcases hx with hx | rfl
    · exact h.good x hx
    · exact h.goodz
  · rw [List.pairwise_append]
    refine ⟨h.step, by simp, fun x hx y hy => ?_⟩
    obtain rfl := List.mem_singleton.1 hy
    refine ⟨h.ends x hx, ?_⟩
    rcases List.eq_nil_or_concat L with rfl | ⟨L0, w, rfl⟩
    · simp at hx
    · rw [List.concat_eq_append] at *
      rw [List.mem_append, List.mem_singleton] at hx
      rcases hx with hx | rfl
      · intro hh
        have h1 := ((List.pairwise_append.1 h.step).2.2 x hx w (by simp)).1
        have h2 := h.ends w (by simp)
        have h3 := hh.2.1
        have h4 := siz_pos w
        omega
      · exact hn L0 x rfl
/-- At the end: the fewest. -/
theorem Inv.fewest {P L : List Pfx} (h : Inv P L) (hg : ∀ x ∈ P, Good x) (l : List Pfx) (hl : ∀ x, x ∈ l ↔ x ∈ P) : L = few0 l :=
  few0_of l L (fun x hx => hg x ((hl x).1 hx)) h.good h.step fun a => by
    rw [h.cov a]
    exact ⟨fun ⟨x, hx, h⟩ => ⟨x, (hl x).2 hx, h⟩, fun ⟨x, hx, h⟩ => ⟨x, (hl x).1 hx, h⟩⟩

theorem xor_low (d e : Nat) (h : d < e) : d ^^^ e = 1 ↔ e = d + 1 ∧ d % 2 = 0 := by
  constructor
  · intro hx
    have h1 : (d ^^^ e) / 2 = 0 := by rw [hx]
    rw [Nat.xor_div_two] at h1
    have h2 : d / 2 = e / 2 := by
      apply Nat.eq_of_testBit_eq
      intro i
      have := congrArg (fun n => Nat.testBit n i) h1
      simp only [Nat.testBit_xor, Nat.zero_testBit] at this
      simpa using this
    omega
  · rintro ⟨rfl, h2⟩
    have h3 : (d ^^^ (d + 1)) / 2 = 0 := by
      rw [Nat.xor_div_two, show (d + 1) / 2 = d / 2 by omega, Nat.xor_self]
    have h4 : (d ^^^ (d + 1)) % 2 = 1 := Nat.xor_mod_two_eq_one.2 (by omega)
    omega
theorem xor_scaled (d e j : Nat) : (d * 2 ^ j) ^^^ (e * 2 ^ j) = (d ^^^ e) * 2 ^ j := by
  rw [← Nat.shiftLeft_eq, ← Nat.shiftLeft_eq, ← Nat.shiftLeft_eq, Nat.shiftLeft_xor_distrib]
theorem halves_iff (d e j : Nat) (h : d < e) : Halves (blk (d * 2 ^ j) j) (blk (e * 2 ^ j) j) ↔ (d * 2 ^ j) ^^^ (e * 2 ^ j) = 2 ^ j := by
  have hp := pow_pos' j
  rw [xor_scaled]
  have h1 : (d ^^^ e) * 2 ^ j = 2 ^ j ↔ d ^^^ e = 1 := by
    constructor
    · intro h
      have : (d ^^^ e) * 2 ^ j = 1 * 2 ^ j := by rw [h, Nat.one_mul]
      exact Nat.eq_of_mul_eq_mul_right hp this
    · intro h; rw [h, Nat.one_mul]
  rw [h1, xor_low d e h]
  unfold Halves
  rw [siz_blk]
  constructor
  · rintro ⟨_, h2, h3⟩
    have h2' : e * 2 ^ j = d * 2 ^ j + 2 ^ j := by
      have : ((e * 2 ^ j : Nat) : Int) = ((d * 2 ^ j : Nat) : Int) + ((2 ^ j : Nat) : Int) := h2
      omega
    have h3' : d * 2 ^ j % (2 * 2 ^ j) = 0 := (even_cast _ _).1 h3
    refine ⟨?_, ?_⟩
    · have : e * 2 ^ j = (d + 1) * 2 ^ j := by rw [h2', Nat.add_mul, Nat.one_mul]
      exact Nat.eq_of_mul_eq_mul_right hp this
    · rcases Nat.mod_two_eq_zero_or_one d with h | h
      · exact h
      · exact absurd h3' (even_not d j h)
  · rintro ⟨rfl, h3⟩
    refine ⟨rfl, ?_, ?_⟩
    · show (((d + 1) * 2 ^ j : Nat) : Int) = ((d * 2 ^ j : Nat) : Int) + ((2 ^ j : Nat) : Int)
      rw [Nat.add_mul, Nat.one_mul, Int.natCast_add]
    · obtain ⟨c, rfl⟩ : ∃ c, d = 2 * c := ⟨d / 2, by omega⟩
      refine (even_cast _ _).2 ?_
      rw [show 2 * c * 2 ^ j = c * (2 * 2 ^ j) by rw [Nat.mul_comm 2 c, Nat.mul_assoc]]
      exact Nat.mul_mod_left _ _
end Go.Proofs.Ytapaglapngbbpaa.CidrMath
