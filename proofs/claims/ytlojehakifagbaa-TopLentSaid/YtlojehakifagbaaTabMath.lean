/- A table's list: the last place that fits; what is moved. No statement is proved here. -/
import Derived.Test.YtlojehakifagbaaTableMath
namespace Go.Proofs.Ytlojehakifagbaa.RouteMath
open Go.Proofs.Ytlojehakifagbaa.CidrMath
set_option linter.unusedVariables false

/-- The last place whose prefix fits, or -1. -/
def LastAt (f : Pfx → Bool) (l : List Rt) (at_ : Int) : Prop :=
  (at_ = -1 ∧ ∀ x ∈ l, f (key x) = false) ∨ ∃ (k : Nat) (x : Rt), at_ = (k : Int) ∧ l[k]? = some x ∧ f (key x) = true ∧ ∀ (j : Nat) (y : Rt), k < j → l[j]? = some y → f (key y) = false
theorem lt_len {l : List Rt} {k : Nat} {x : Rt} (h : l[k]? = some x) : k < l.length := by
  rcases Nat.lt_or_ge k l.length with h1 | h1
  · exact h1
  · rw [List.getElem?_eq_none h1] at h; cases h
theorem sorted_lt {l : List Rt} (hs : Sorted l) {i j : Nat} {x y : Rt} (h : i < j) (hx : l[i]? = some x) (hy : l[j]? = some y) : Lt (key x) (key y) := by
  have h1 := lt_len hx
  have h2 := lt_len hy
  rw [List.getElem?_eq_getElem h1] at hx
  rw [List.getElem?_eq_getElem h2] at hy
  have := List.pairwise_iff_getElem.1 hs i j h1 h2 h
  rw [Option.some.inj hx, Option.some.inj hy] at this
  exact this
theorem lt_asymm {x y : Pfx} (h : Lt x y) : ¬ Lt y x := fun g => lt_irrefl x (lt_trans h g)
theorem le_pos {l : List Rt} (hs : Sorted l) {p : Pfx} {k : Nat} {x : Rt} (hx : l[k]? = some x) : Lt (key x) p ↔ k < pos l p := by
  constructor
  · intro h
    rcases Nat.lt_or_ge k (pos l p) with h1 | h1
    · exact h1
    · have hm : x ∈ l.drop (pos l p) := by
        have : (l.drop (pos l p))[k - pos l p]? = some x := by rw [List.getElem?_drop]; rw [show pos l p + (k - pos l p) = k by omega]; exact hx
        exact List.mem_of_getElem? this
      exact absurd h (behind_pos hs hm)
  · intro h
    have : (l.take (pos l p))[k]? = some x := by rw [List.getElem?_take, if_pos h]; exact hx
    exact before_pos (List.mem_of_getElem? this)
/-- What the last one not behind a prefix tells: the prefix itself, or the place before where it would stand. -/
theorem last_le {l : List Rt} (hs : Sorted l) {p : Pfx} {f : Pfx → Bool} (hf : ∀ q, f q = true ↔ ¬ Lt p q) {n : Int} (h : LastAt f l n) :
    (Is l p ∧ n = (pos l p : Int) ∧ pos l p < l.length) ∨ (¬ Is l p ∧ n = (pos l p : Int) - 1) := by
  have hfalse : ∀ q, f q = false ↔ Lt p q := fun q => by
    cases e : f q with
    | true => simp only [Bool.true_eq_false, false_iff]; exact (hf q).1 e
    | false =>
      simp only [true_iff]
      have := mt (hf q).2 (by rw [e]; simp)
      exact Classical.not_not.1 this
  by_cases hi : Is l p
  · left
    refine ⟨hi, ?_⟩
    obtain ⟨r, hr, e⟩ := hi
    have hlen := lt_len hr
    refine ⟨?_, hlen⟩
    rcases h with ⟨_, h2⟩ | ⟨k, x, rfl, hx, h1, h2⟩
    · have := (hfalse _).1 (h2 r (List.mem_of_getElem? hr))
      rw [e] at this; exact absurd this (lt_irrefl _)
    · rcases Nat.lt_trichotomy k (pos l p) with h3 | h3 | h3
      · have := (hfalse _).1 (h2 _ r h3 hr)
        rw [e] at this; exact absurd this (lt_irrefl _)
      · rw [h3]
      · have h4 := sorted_lt hs h3 hr hx
        rw [e] at h4
        exact absurd h4 ((hf _).1 h1)
  · right
    refine ⟨hi, ?_⟩
    rcases h with ⟨rfl, h2⟩ | ⟨k, x, rfl, hx, h1, h2⟩
    · have : pos l p = 0 := by
        rcases Nat.eq_zero_or_pos (pos l p) with h3 | h3
        · exact h3
        · have hp := pos_le l p
          have hx : l[0]? = some l[0] := List.getElem?_eq_getElem (by omega)
          have h4 := (le_pos hs hx).2 h3
          have h5 := (hfalse _).1 (h2 _ (List.mem_of_getElem? hx))
          exact absurd h4 (lt_asymm h5)
      omega
    · have h3 := (hf _).1 h1
      have h4 : Lt (key x) p := by
        rcases lt_three (key x) p with h | h | h
        · exact h
        · exact absurd ((is_iff hs p).2 ⟨x, List.mem_of_getElem? hx, h⟩) hi
        · exact absurd h h3
      have h5 := (le_pos hs hx).1 h4
      have h6 : ¬ k + 1 < pos l p := fun h6 => by
        have hp := pos_le l p
        have hy : l[k + 1]? = some l[k + 1] := List.getElem?_eq_getElem (by omega)
        have h7 := (le_pos hs hy).2 h6
        have h8 := (hfalse _).1 (h2 _ _ (by omega) hy)
        exact absurd h7 (lt_asymm h8)
      omega
/-- What the last one that is the prefix tells. -/
theorem last_eq {l : List Rt} (hs : Sorted l) {p : Pfx} {f : Pfx → Bool} (hf : ∀ q, f q = true ↔ q = p) {n : Int} (h : LastAt f l n) :
    (Is l p ∧ n = (pos l p : Int) ∧ pos l p < l.length) ∨ (¬ Is l p ∧ n = -1) := by
  rcases h with ⟨rfl, h2⟩ | ⟨k, x, rfl, hx, h1, h2⟩
  · refine .inr ⟨fun ⟨r, hr, e⟩ => ?_, rfl⟩
    have := h2 r (List.mem_of_getElem? hr)
    rw [(hf _).2 e] at this; cases this
  · have e := (hf _).1 h1
    have hi := (is_iff hs p).2 ⟨x, List.mem_of_getElem? hx, e⟩
    refine .inl ⟨hi, ?_⟩
    obtain ⟨r, hr, e2⟩ := hi
    have hlen := lt_len hr
    refine ⟨?_, hlen⟩
    rcases Nat.lt_trichotomy k (pos l p) with h3 | h3 | h3
    · have := sorted_lt hs h3 hx hr
      rw [e, e2] at this; exact absurd this (lt_irrefl _)
    · rw [h3]
    · have := sorted_lt hs h3 hr hx
      rw [e, e2] at this; exact absurd this (lt_irrefl _)
theorem nest2 {x y : Pfx} (hx : CidrMath.Good x) (hy : CidrMath.Good y) (hl : x.len ≤ y.len) {a : Nat} (h1 : has x a) (h2 : has y a) : x.adr ≤ y.adr := by
  obtain ⟨d, j, hj, rfl, _⟩ := good_mem hx
  obtain ⟨e, i, hi, rfl, _⟩ := good_mem hy
  have hij : i ≤ j := by
    have : (16 : Int) - (j : Int) ≤ 16 - (i : Int) := hl
    omega
  rw [has_blk] at h1 h2
  obtain ⟨m, rfl⟩ : ∃ m, j = i + m := ⟨j - i, by omega⟩
  show ((d * 2 ^ (i + m) : Nat) : Int) ≤ ((e * 2 ^ i : Nat) : Int)
  have hp := pow_pos' i
  have e1 : d * 2 ^ (i + m) = (d * 2 ^ m) * 2 ^ i := by rw [Nat.pow_add, Nat.mul_assoc, Nat.mul_comm (2 ^ i)]
  rw [e1] at h1 ⊢
  have h3 : d * 2 ^ m < e + 1 := by
    refine Nat.lt_of_mul_lt_mul_right (a := 2 ^ i) ?_
    rw [Nat.add_mul, Nat.one_mul]
    omega
  have h4 : d * 2 ^ m * 2 ^ i ≤ e * 2 ^ i := Nat.mul_le_mul_right _ (by omega)
  omega
/-- The last one that has an address is the longest one. -/
theorem last_top {l : List Rt} (hs : Sorted l) (hg : ∀ x ∈ l, CidrMath.Good (key x)) {a : Nat} {f : Pfx → Bool} (hf : ∀ x ∈ l, f (key x) = true ↔ has (key x) a) {n : Int} (h : LastAt f l n) :
    (findR l a = none ∧ n = -1) ∨ ∃ (k : Nat) (x : Rt), findR l a = some x ∧ n = (k : Int) ∧ l[k]? = some x := by
  rcases h with ⟨rfl, h2⟩ | ⟨k, x, rfl, hx, h1, h2⟩
  · refine .inl ⟨find_none.2 fun y hy hh => ?_, rfl⟩
    have := h2 y hy
    rw [(hf y hy).2 hh] at this; cases this
  · have hxm := List.mem_of_getElem? hx
    have hxa := (hf x hxm).1 h1
    refine .inr ⟨k, x, find_top hs hg ⟨hxm, hxa, fun y hy hh => ?_⟩, rfl, hx⟩
    obtain ⟨j, hj, e⟩ := List.getElem_of_mem hy
    have hy2 : l[j]? = some y := by rw [List.getElem?_eq_getElem hj, e]
    rcases Nat.lt_trichotomy j k with h3 | h3 | h3
    · have h4 := sorted_lt hs h3 hy2 hx
      rcases Int.lt_or_le x.len y.len with h5 | h5
      · have h6 := nest2 (hg x hxm) (hg y hy) (Int.le_of_lt h5) hxa hh
        have h7 : (key x).len < (key y).len := h5
        unfold Lt at h4
        omega
      · exact h5
    · subst h3
      rw [hx] at hy2
      rw [Option.some.inj hy2]; exact Int.le_refl _
    · have := h2 j y h3 hy2
      rw [(hf y hy).2 hh] at this; cases this
end Go.Proofs.Ytlojehakifagbaa.RouteMath
