/- Stations that meet and wait: what is wrong with a call, and who sends in which slots, as numbers of the program. Mathematics alone. No statement is proved here. -/
import Derived.Test.YteggajhpjdidcaaRetryMath
namespace Go.Proofs.Yteggajhpjdidcaa.Retry
open Go.Proofs.Yteggajhpjdidcaa.RetryMath
set_option linter.unusedVariables false

def fit (x : Int) : Bool := decide (0 ≤ x) && decide (x ≤ 1000)
/-- What is wrong with a number of stations, and picks. -/
def code (x : Int) (l : List Int) : Int := if 1 ≤ x ∧ x ≤ 5 then (if 200 < l.length then 4 else if l.all fit = true then 0 else 1) else 1
structure Good (n : Nat) (l : List Int) : Prop where
  lo : 1 ≤ n
  up : n ≤ 5
  len : l.length ≤ 200
  all : ∀ k, k < l.length → 0 ≤ l[k]?.getD 0 ∧ l[k]?.getD 0 ≤ 1000
theorem fit_iff {x : Int} : fit x = true ↔ 0 ≤ x ∧ x ≤ 1000 := by
  unfold fit; rw [Bool.and_eq_true, decide_eq_true_eq, decide_eq_true_eq]
theorem code_val (x : Int) (l : List Int) : code x l = 0 ∨ code x l = 1 ∨ code x l = 4 := by
  unfold code
  split
  · split
    · exact .inr (.inr rfl)
    · split
      · exact .inl rfl
      · exact .inr (.inl rfl)
  · exact .inr (.inl rfl)
theorem code_zero {x : Int} {l : List Int} (h : code x l = 0) : ∃ n : Nat, x = (n : Int) ∧ Good n l := by
  unfold code at h
  split at h
  · next h1 =>
    split at h
    · cases h
    · next h2 =>
      split at h
      · next h3 =>
        refine ⟨x.toNat, by omega, by omega, by omega, by omega, fun k hk => ?_⟩
        rw [List.getElem?_eq_getElem hk]
        exact fit_iff.1 (List.all_eq_true.1 h3 _ (List.getElem_mem hk))
      · cases h
  · cases h
theorem code_good {n : Nat} {l : List Int} (g : Good n l) : code (n : Int) l = 0 := by
  unfold code
  have h1 := g.lo
  have h2 := g.up
  have h3 := g.len
  rw [if_pos ⟨by omega, by omega⟩, if_neg (by omega), if_pos]
  rw [List.all_eq_true]
  intro x hx
  obtain ⟨k, hk, rfl⟩ := List.mem_iff_getElem.1 hx
  have := g.all k hk
  rw [List.getElem?_eq_getElem hk] at this
  exact fit_iff.2 this
theorem Good.take {n : Nat} {l : List Int} (g : Good n l) (k : Nat) : Good n (l.take k) := by
  have h3 := g.len
  refine ⟨g.lo, g.up, by rw [List.length_take]; omega, fun j hj => ?_⟩
  rw [List.length_take] at hj
  rw [List.getElem?_take_of_lt (by omega)]
  exact g.all j (by omega)
def nats (l : List Int) : List Nat := l.map Int.toNat
def sent (n : Nat) (l : List Int) : List (Nat × Nat) := all n (nats l)
/-- Who sends, and in which slots. -/
def who (n : Nat) (l : List Int) : List Int := (sent n l).map fun x => ((x.1 : Nat) : Int)
def slots (n : Nat) (l : List Int) : List Int := (sent n l).map fun x => ((x.2 : Nat) : Int)
variable {n : Nat} {l : List Int}
theorem who_len : (who n l).length = (sent n l).length := List.length_map ..
theorem slots_len : (slots n l).length = (sent n l).length := List.length_map ..
theorem sent_len : (sent n l).length ≤ n := all_len _
theorem who_at {k : Nat} (h : k < (sent n l).length) : ∃ i : Nat, (who n l)[k]? = some (i : Int) ∧ i < n := by
  refine ⟨((sent n l)[k]'h).1, by unfold who; rw [List.getElem?_map, List.getElem?_eq_getElem h]; rfl, ?_⟩
  exact ((all_fine (n := n) (nats l)).who _ (List.getElem_mem h)).1
theorem slot_at {k : Nat} (h : k < (sent n l).length) : ∃ t : Nat, (slots n l)[k]? = some (t : Int) ∧ t ≤ 1000 := by
  refine ⟨((sent n l)[k]'h).2, by unfold slots; rw [List.getElem?_map, List.getElem?_eq_getElem h]; rfl, ?_⟩
  have := ((all_fine (n := n) (nats l)).who _ (List.getElem_mem h)).2.2
  omega
/-- Each sends once. -/
theorem who_once {k : Nat} {x : Int} (h : (who n l)[k]? = some x) : x ∉ (who n l).take k := by
  intro hx
  obtain ⟨j, hjx⟩ := List.mem_iff_getElem?.1 hx
  have hj : j < k := by
    rcases Nat.lt_or_ge j k with h1 | h1
    · exact h1
    · rw [List.getElem?_eq_none (by rw [List.length_take]; omega)] at hjx; cases hjx
  rw [List.getElem?_take_of_lt hj] at hjx
  have hd := (all_fine (n := n) (nats l)).once
  unfold who sent at h hjx
  rw [List.getElem?_map] at h hjx
  obtain ⟨y, hy, ey⟩ := Option.map_eq_some_iff.1 h
  obtain ⟨z, hz, ez⟩ := Option.map_eq_some_iff.1 hjx
  have e : y.1 = z.1 := by omega
  have h1 : ((all n (nats l)).map Prod.fst)[k]? = some y.1 := by rw [List.getElem?_map, hy]; rfl
  have h2 : ((all n (nats l)).map Prod.fst)[j]? = some y.1 := by rw [List.getElem?_map, hz, e]; rfl
  obtain ⟨hk1, h1⟩ := List.getElem?_eq_some_iff.1 h1
  obtain ⟨hj1, h2⟩ := List.getElem?_eq_some_iff.1 h2
  exact List.pairwise_iff_getElem.1 hd j k hj1 hk1 hj (by rw [h2, h1])
/-- Later ones send later. -/
theorem slot_later {j k : Nat} {x y : Int} (hjk : j < k) (hj : (slots n l)[j]? = some x) (hk : (slots n l)[k]? = some y) : x < y := by
  have hd := (all_fine (n := n) (nats l)).later
  unfold slots sent at hj hk
  rw [List.getElem?_map] at hj hk
  obtain ⟨u, hu, eu⟩ := Option.map_eq_some_iff.1 hj
  obtain ⟨v, hv, ev⟩ := Option.map_eq_some_iff.1 hk
  obtain ⟨h1, h2⟩ := List.getElem?_eq_some_iff.1 hu
  obtain ⟨h3, h4⟩ := List.getElem?_eq_some_iff.1 hv
  have := List.pairwise_iff_getElem.1 hd j k (by simpa using h1) (by simpa using h3) hjk
  rw [List.getElem_map, List.getElem_map, h2, h4] at this
  omega
/-- Fewer picks: what was is a beginning. -/
theorem sent_take (k : Nat) : sent n (l.take k) <+: sent n l := by
  unfold sent nats
  rw [List.map_take]
  exact all_take _ k
theorem who_take (k : Nat) : who n (l.take k) = (who n l).take (sent n (l.take k)).length := by
  obtain ⟨t, ht⟩ := sent_take (n := n) (l := l) k
  unfold who
  rw [← List.map_take, ← ht, List.take_left]
theorem slots_take (k : Nat) : slots n (l.take k) = (slots n l).take (sent n (l.take k)).length := by
  obtain ⟨t, ht⟩ := sent_take (n := n) (l := l) k
  unfold slots
  rw [← List.map_take, ← ht, List.take_left]
theorem sent_take_len (k : Nat) : (sent n (l.take k)).length ≤ (sent n l).length := (sent_take k).length_le
theorem sent_one : sent 1 l = [(0, 0)] := all_one _
theorem sent_two (a b : Int) : sent 2 [a, b] = if a.toNat % 2 = b.toNat % 2 then [] else [(a.toNat % 2, 1), (b.toNat % 2, 2)] := all_two _ _
/-- Where all have sent, they are all of them. -/
theorem who_perm (h : (sent n l).length = n) : (who n l).Perm ((List.range n).map fun i => ((i : Nat) : Int)) := by
  have := (all_perm (n := n) (nats l) h).map fun i => ((i : Nat) : Int)
  rw [List.map_map] at this
  exact this
end Go.Proofs.Yteggajhpjdidcaa.Retry
