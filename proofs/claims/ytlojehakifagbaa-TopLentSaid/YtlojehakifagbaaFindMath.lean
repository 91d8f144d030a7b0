/- The longest route that has an address. No statement is proved here. -/
import Derived.Test.YtlojehakifagbaaRouteMath
namespace Go.Proofs.Ytlojehakifagbaa.RouteMath
open Go.Proofs.Ytlojehakifagbaa.CidrMath
set_option linter.unusedVariables false

/-- A route that has the address, none longer that has it. -/
structure Top (l : List Rt) (a : Nat) (x : Rt) : Prop where
  mem : x ∈ l
  has : has (key x) a
  long : ∀ y ∈ l, CidrMath.has (key y) a → y.len ≤ x.len
def better (a : Nat) (b : Option Rt) (r : Rt) : Option Rt := if has (key r) a then (match b with | none => some r | some x => if x.len < r.len then some r else some x) else b
def findR (l : List Rt) (a : Nat) : Option Rt := l.foldl (better a) none
theorem find_take (l : List Rt) (k : Nat) (r : Rt) (h : l[k]? = some r) (a : Nat) : findR (l.take (k + 1)) a = better a (findR (l.take k) a) r := by
  unfold findR
  rw [List.take_add_one, h]
  simp
/-- What the fold holds. -/
theorem fold_spec (a : Nat) : ∀ (l done : List Rt) (b : Option Rt), (match b with | none => ∀ y ∈ done, ¬ has (key y) a | some x => Top done a x) →
    (match l.foldl (better a) b with | none => ∀ y ∈ done ++ l, ¬ has (key y) a | some x => Top (done ++ l) a x)
  | [], done, b, h => by simpa using h
  | r :: l, done, b, h => by
    have e : done ++ r :: l = (done ++ [r]) ++ l := by simp
    rw [List.foldl_cons, e]
    refine fold_spec a l (done ++ [r]) _ ?_
    unfold better
    by_cases hr : has (key r) a
    · rw [if_pos hr]
      cases b with
      | none =>
        refine ⟨by simp, hr, fun y hy hh => ?_⟩
        rcases List.mem_append.1 hy with hy | hy
        · exact absurd hh (h y hy)
        · rw [List.mem_singleton.1 hy]; exact Int.le_refl _
      | some x =>
        simp only
        by_cases hl : x.len < r.len
        · rw [if_pos hl]
          refine ⟨by simp, hr, fun y hy hh => ?_⟩
          rcases List.mem_append.1 hy with hy | hy
          · have := h.long y hy hh; omega
          · rw [List.mem_singleton.1 hy]; exact Int.le_refl _
        · rw [if_neg hl]
          refine ⟨by simp [h.mem], h.has, fun y hy hh => ?_⟩
          rcases List.mem_append.1 hy with hy | hy
          · exact h.long y hy hh
          · rw [List.mem_singleton.1 hy]; omega
    · rw [if_neg hr]
      cases b with
      | none =>
        intro y hy
        rcases List.mem_append.1 hy with hy | hy
        · exact h y hy
        · rw [List.mem_singleton.1 hy]; exact hr
      | some x =>
        refine ⟨by simp [h.mem], h.has, fun y hy hh => ?_⟩
        rcases List.mem_append.1 hy with hy | hy
        · exact h.long y hy hh
        · rw [List.mem_singleton.1 hy] at hh; exact absurd hh hr
theorem find_some {l : List Rt} {a : Nat} {x : Rt} (h : findR l a = some x) : Top l a x := by
  have := fold_spec a l [] none (fun y hy => by simp at hy)
  unfold findR at h
  rw [h] at this
  simpa using this
theorem find_none {l : List Rt} {a : Nat} : findR l a = none ↔ ∀ y ∈ l, ¬ has (key y) a := by
  constructor
  · intro h
    have := fold_spec a l [] none (fun y hy => by simp at hy)
    unfold findR at h
    rw [h] at this
    simpa using this
  · intro h
    cases e : findR l a with
    | none => rfl
    | some x => exact absurd (find_some e).has (h x (find_some e).mem)
/-- Two good prefixes of one length that have an address are one. -/
theorem one_len {x y : Pfx} (hx : CidrMath.Good x) (hy : CidrMath.Good y) (hl : x.len = y.len) {a : Nat} (h1 : has x a) (h2 : has y a) : x = y := by
  obtain ⟨d, j, hj, rfl, _⟩ := good_mem hx
  obtain ⟨e, i, hi, rfl, _⟩ := good_mem hy
  have hij : i = j := by
    have : (16 : Int) - (j : Int) = 16 - (i : Int) := hl
    omega
  subst hij
  rw [has_blk] at h1 h2
  have hp := pow_pos' i
  have e1 : a / 2 ^ i = d := Nat.div_eq_of_lt_le (by omega) (by rw [Nat.add_mul, Nat.one_mul]; omega)
  have e2 : a / 2 ^ i = e := Nat.div_eq_of_lt_le (by omega) (by rw [Nat.add_mul, Nat.one_mul]; omega)
  rw [← e1, ← e2]
theorem sorted_key {l : List Rt} (hs : Sorted l) {x y : Rt} (hx : x ∈ l) (hy : y ∈ l) (h : key x = key y) : x = y := by
  obtain ⟨i, hi, rfl⟩ := List.getElem_of_mem hx
  obtain ⟨j, hj, rfl⟩ := List.getElem_of_mem hy
  rcases Nat.lt_trichotomy i j with h1 | h1 | h1
  · have := List.pairwise_iff_getElem.1 hs i j hi hj h1
    rw [h] at this; exact absurd this (lt_irrefl _)
  · subst h1; rfl
  · have := List.pairwise_iff_getElem.1 hs j i hj hi h1
    rw [h] at this; exact absurd this (lt_irrefl _)
theorem top_one {l : List Rt} (hs : Sorted l) (hg : ∀ x ∈ l, CidrMath.Good (key x)) {a : Nat} {x y : Rt} (hx : Top l a x) (hy : Top l a y) : x = y :=
  sorted_key hs hx.mem hy.mem (one_len (hg x hx.mem) (hg y hy.mem) (Int.le_antisymm (hy.long x hx.mem hx.has) (hx.long y hy.mem hy.has)) hx.has hy.has)
theorem find_top {l : List Rt} (hs : Sorted l) (hg : ∀ x ∈ l, CidrMath.Good (key x)) {a : Nat} {x : Rt} (h : Top l a x) : findR l a = some x := by
  cases e : findR l a with
  | none => exact absurd h.has (find_none.1 e x h.mem)
  | some y => rw [top_one hs hg (find_some e) h]
end Go.Proofs.Ytlojehakifagbaa.RouteMath
