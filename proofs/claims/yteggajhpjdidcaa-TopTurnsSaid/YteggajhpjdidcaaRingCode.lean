/- A token ring: what is wrong with stations, and what they send, as numbers of the program. Mathematics alone. No statement is proved here. -/
import Derived.Test.YteggajhpjdidcaaRingMore
namespace Go.Proofs.Yteggajhpjdidcaa.Ring
open Go.Proofs.Yteggajhpjdidcaa.RingMath
set_option linter.unusedVariables false

/-- The number of a station. -/
def fn (l : List Int) (i : Nat) : Nat := (l[i]?.getD 0).toNat
def fit (x : Int) : Bool := decide (0 ≤ x) && decide (x ≤ 20)
/-- What is wrong with stations; with a limit, too. -/
def code (l : List Int) : Int := if l.length = 0 then 5 else if 8 < l.length then 4 else if l.all fit = true then 0 else 1
def codeH (l : List Int) (x : Int) : Int := if code l = 0 then (if 1 ≤ x ∧ x ≤ 20 then 0 else 1) else code l
structure Good (l : List Int) (h : Nat) : Prop where
  lo : 1 ≤ l.length
  up : l.length ≤ 8
  all : ∀ k, k < l.length → 0 ≤ l[k]?.getD 0 ∧ l[k]?.getD 0 ≤ 20
  h1 : 1 ≤ h
  h20 : h ≤ 20
theorem code_val (l : List Int) : code l = 0 ∨ code l = 1 ∨ code l = 4 ∨ code l = 5 := by
  unfold code
  split
  · exact .inr (.inr (.inr rfl))
  · split
    · exact .inr (.inr (.inl rfl))
    · split
      · exact .inl rfl
      · exact .inr (.inl rfl)
theorem fit_iff {x : Int} : fit x = true ↔ 0 ≤ x ∧ x ≤ 20 := by
  unfold fit; rw [Bool.and_eq_true, decide_eq_true_eq, decide_eq_true_eq]
theorem code_zero {l : List Int} : code l = 0 ↔ 1 ≤ l.length ∧ l.length ≤ 8 ∧ ∀ k, k < l.length → 0 ≤ l[k]?.getD 0 ∧ l[k]?.getD 0 ≤ 20 := by
  unfold code
  constructor
  · intro h
    split at h
    · cases h
    · split at h
      · cases h
      · split at h
        · rename_i h3
          refine ⟨by omega, by omega, fun k hk => ?_⟩
          rw [List.getElem?_eq_getElem hk]
          exact fit_iff.1 (List.all_eq_true.1 h3 _ (List.getElem_mem hk))
        · cases h
  · rintro ⟨h1, h2, h3⟩
    rw [if_neg (by omega), if_neg (by omega), if_pos]
    rw [List.all_eq_true]
    intro x hx
    obtain ⟨k, hk, rfl⟩ := List.mem_iff_getElem.1 hx
    have := h3 k hk
    rw [List.getElem?_eq_getElem hk] at this
    exact fit_iff.2 this
theorem codeH_zero {l : List Int} {x : Int} (h : codeH l x = 0) : ∃ k : Nat, x = (k : Int) ∧ Good l k := by
  unfold codeH at h
  split at h
  · rename_i h0
    split at h
    · rename_i h1
      obtain ⟨a, b, c⟩ := code_zero.1 h0
      exact ⟨x.toNat, by omega, a, b, c, by omega, by omega⟩
    · cases h
  · rename_i h0; exact absurd h h0
theorem Good.code {l : List Int} {h : Nat} (g : Good l h) : Ring.code l = 0 := code_zero.2 ⟨g.lo, g.up, g.all⟩
theorem Good.codeH {l : List Int} {h : Nat} (g : Good l h) : Ring.codeH l (h : Int) = 0 := by
  unfold Ring.codeH
  rw [if_pos g.code, if_pos ⟨by have := g.h1; omega, by have := g.h20; omega⟩]
theorem Good.fn {l : List Int} {h : Nat} (g : Good l h) {k : Nat} (hk : k < l.length) : l[k]?.getD 0 = ((Ring.fn l k : Nat) : Int) ∧ Ring.fn l k ≤ 20 := by
  have := g.all k hk
  unfold Ring.fn
  omega
/-- Numbers as numbers of the program. -/
def nat (L : List Nat) : List Int := L.map fun v : Nat => (v : Int)
theorem nat_len (L : List Nat) : (nat L).length = L.length := by simp [nat]
theorem nat_get {L : List Nat} {k v : Nat} (h : L[k]? = some v) : (nat L)[k]?.getD 0 = (v : Int) := by
  unfold nat
  rw [List.getElem?_map, h]; rfl
theorem nat_app (L M : List Nat) : nat (L ++ M) = nat L ++ nat M := by simp [nat]
/-- Who sends, in order. -/
def ord (l : List Int) (h : Nat) : List Nat := order (fn l) h l.length 20
theorem Good.top {l : List Int} {h : Nat} (g : Good l h) : ∀ k, k < l.length → Ring.fn l k ≤ 20 * h := fun k hk => by
  have h1 := (g.fn hk).2
  have h2 := g.h1
  have h3 : 20 * 1 ≤ 20 * h := Nat.mul_le_mul_left _ h2
  omega
theorem Good.len {l : List Int} {h : Nat} (g : Good l h) : (ord l h).length = sm (Ring.fn l) l.length ∧ (ord l h).length ≤ 160 := by
  have h1 : (ord l h).length = sm (Ring.fn l) l.length := order_len g.top
  refine ⟨h1, ?_⟩
  rw [h1]
  have h2 := sm_le (Ring.fn l) 20 l.length fun k hk => (g.fn hk).2
  have h3 := g.up
  omega
theorem Good.gap {l : List Int} {h : Nat} (g : Good l h) : RingMath.gap (ord l h) ≤ h * (l.length - 1) := gap_le g.h1 g.top (gap_is _)
theorem Good.gap_small {l : List Int} {h : Nat} (g : Good l h) : RingMath.gap (ord l h) ≤ 160 := Nat.le_trans (gap_few _) g.len.2
end Go.Proofs.Yteggajhpjdidcaa.Ring
