/- Package mux: the mathematics, without the program. d: the bytes of all streams, one stream behind the other, 200 places each: 0 where none came, else the byte and one. No statement is proved here. -/
import Derived.Test.YtcleanjacijfoaaKit
namespace Go.Proofs.Ytcleanjacijfoaa.Mux
set_option linter.unusedVariables false
set_option maxRecDepth 20000

/-- One of some bytes meets another one. -/
def clash (d : Nat → Nat) (k : Nat) (bs : List Nat) : Prop := ∃ i, i < bs.length ∧ d (k + i) ≠ 0 ∧ d (k + i) ≠ bs[i]?.getD 0 + 1
instance (d : Nat → Nat) (k : Nat) (bs : List Nat) : Decidable (clash d k bs) :=
  decidable_of_iff (∃ i ∈ List.range bs.length, d (k + i) ≠ 0 ∧ d (k + i) ≠ bs[i]?.getD 0 + 1) ⟨fun ⟨i, hi, h⟩ => ⟨i, List.mem_range.1 hi, h⟩, fun ⟨i, hi, h⟩ => ⟨i, List.mem_range.2 hi, h⟩⟩
/-- Some bytes are put in at a place. -/
def put (d : Nat → Nat) (k : Nat) (bs : List Nat) : Nat → Nat := fun j => if k ≤ j ∧ j < k + bs.length then bs[j - k]?.getD 0 + 1 else d j
theorem put_in (d : Nat → Nat) (k : Nat) (bs : List Nat) {i : Nat} (hi : i < bs.length) : put d k bs (k + i) = bs[i]?.getD 0 + 1 := by
  unfold put
  rw [if_pos ⟨by omega, by omega⟩, Nat.add_sub_cancel_left]
theorem put_out (d : Nat → Nat) (k : Nat) (bs : List Nat) {j : Nat} (hj : j < k ∨ k + bs.length ≤ j) : put d k bs j = d j := by
  unfold put
  rw [if_neg (by omega)]
theorem put_nil (d : Nat → Nat) (k : Nat) : put d k [] = d := by
  funext j
  exact put_out d k [] (by simp; omega)
/-- Put in one by one: the next one. -/
theorem put_next (d : Nat → Nat) (k : Nat) (bs : List Nat) {i : Nat} (hi : i < bs.length) : put d k (bs.take (i + 1)) = fun j => if j = k + i then bs[i]?.getD 0 + 1 else put d k (bs.take i) j := by
  have h1 : (bs.take (i + 1)).length = i + 1 := by rw [List.length_take]; omega
  have h2 : (bs.take i).length = i := by rw [List.length_take]; omega
  have hg : ∀ m, i < m → m ≤ bs.length → (bs.take m)[i]?.getD 0 = bs[i]?.getD 0 := fun m h3 _ => by rw [List.getElem?_take, if_pos h3]
  funext j
  by_cases e : j = k + i
  · subst e
    rw [if_pos rfl, put_in _ _ _ (by omega), hg _ (by omega) (by omega)]
  · rw [if_neg e]
    by_cases hj : k ≤ j ∧ j < k + i
    · obtain ⟨m, rfl⟩ : ∃ m, j = k + m := ⟨j - k, by omega⟩
      rw [put_in _ _ _ (by omega), put_in _ _ _ (by omega), List.getElem?_take, List.getElem?_take, if_pos (by omega), if_pos (by omega)]
    · rw [put_out _ _ _ (by omega), put_out _ _ _ (by omega)]
/-- What was there and does not clash stays. -/
theorem put_keeps {d : Nat → Nat} {k : Nat} {bs : List Nat} (h : ¬ clash d k bs) {j : Nat} (hj : d j ≠ 0) : put d k bs j = d j := by
  by_cases hin : k ≤ j ∧ j < k + bs.length
  · obtain ⟨i, rfl⟩ : ∃ i, j = k + i := ⟨j - k, by omega⟩
    rw [put_in _ _ _ (by omega)]
    by_cases e : d (k + i) = bs[i]?.getD 0 + 1
    · exact e.symm
    · exact absurd ⟨i, by omega, hj, e⟩ h
  · exact put_out _ _ _ (by omega)
/-- The same bytes once more: nothing clashes, nothing turns. -/
theorem put_again (d : Nat → Nat) (k : Nat) (bs : List Nat) : ¬ clash (put d k bs) k bs ∧ put (put d k bs) k bs = put d k bs := by
  refine ⟨fun ⟨i, hi, _, h⟩ => h (put_in d k bs hi), ?_⟩
  funext j
  by_cases hin : k ≤ j ∧ j < k + bs.length
  · obtain ⟨i, rfl⟩ : ∃ i, j = k + i := ⟨j - k, by omega⟩
    rw [put_in _ _ _ (by omega), put_in _ _ _ (by omega)]
  · exact put_out _ _ _ (by omega)
/-- How far a stream goes without a gap, from a place on, no more than so many. -/
def far (d : Nat → Nat) (b : Nat) : Nat → Nat → Nat
  | 0, at_ => at_
  | f + 1, at_ => if d (b + at_) ≠ 0 then far d b f (at_ + 1) else at_
theorem far_spec (d : Nat → Nat) (b : Nat) : ∀ f at_, at_ ≤ far d b f at_ ∧ far d b f at_ ≤ at_ + f ∧ (∀ j, at_ ≤ j → j < far d b f at_ → d (b + j) ≠ 0) ∧ (far d b f at_ = at_ + f ∨ d (b + far d b f at_) = 0)
  | 0, at_ => ⟨Nat.le_refl _, Nat.le_refl _, fun j h1 h2 => absurd h2 (by unfold far; omega), .inl rfl⟩
  | f + 1, at_ => by
    unfold far
    by_cases h : d (b + at_) ≠ 0
    · rw [if_pos h]
      obtain ⟨h1, h2, h3, h4⟩ := far_spec d b f (at_ + 1)
      refine ⟨by omega, by omega, fun j hj1 hj2 => ?_, ?_⟩
      · by_cases e : j = at_
        · rw [e]; exact h
        · exact h3 j (by omega) hj2
      · rcases h4 with h4 | h4
        · exact .inl (by omega)
        · exact .inr h4
    · rw [if_neg h]
      exact ⟨Nat.le_refl _, by omega, fun j h1 h2 => by omega, .inr (by omega)⟩
/-- The end of what can be read from a place on. -/
def fin (d : Nat → Nat) (b at_ : Nat) : Nat := far d b (200 - at_) at_
theorem fin_spec (d : Nat → Nat) (b : Nat) {at_ : Nat} (ha : at_ ≤ 200) : at_ ≤ fin d b at_ ∧ fin d b at_ ≤ 200 ∧ (∀ j, at_ ≤ j → j < fin d b at_ → d (b + j) ≠ 0) ∧ (fin d b at_ = 200 ∨ d (b + fin d b at_) = 0) := by
  obtain ⟨h1, h2, h3, h4⟩ := far_spec d b (200 - at_) at_
  unfold fin
  exact ⟨h1, by omega, h3, h4.imp (fun h => by omega) id⟩
theorem fin_uniq {d : Nat → Nat} {b at_ e : Nat} (ha : at_ ≤ 200) (h1 : at_ ≤ e) (h2 : e ≤ 200) (h3 : ∀ j, at_ ≤ j → j < e → d (b + j) ≠ 0) (h4 : e = 200 ∨ d (b + e) = 0) : fin d b at_ = e := by
  obtain ⟨g1, g2, g3, g4⟩ := fin_spec d b ha
  rcases Nat.lt_trichotomy (fin d b at_) e with h | h | h
  · rcases g4 with g4 | g4
    · omega
    · exact absurd g4 (h3 _ g1 h)
  · exact h
  · rcases h4 with h4 | h4
    · omega
    · exact absurd h4 (g3 _ h1 h)
theorem fin_again (d : Nat → Nat) (b : Nat) {at_ : Nat} (ha : at_ ≤ 200) : fin d b (fin d b at_) = fin d b at_ := by
  obtain ⟨g1, g2, g3, g4⟩ := fin_spec d b ha
  exact fin_uniq g2 (Nat.le_refl _) g2 (fun j h1 h2 => by omega) g4
/-- The bytes from a place on, up to another one. -/
def said (d : Nat → Nat) (b at_ e : Nat) : List Nat := (List.range (e - at_)).map fun j => d (b + at_ + j) - 1
theorem said_len (d : Nat → Nat) (b at_ e : Nat) : (said d b at_ e).length = e - at_ := by simp [said]
theorem said_none (d : Nat → Nat) (b at_ : Nat) : said d b at_ at_ = [] := by simp [said]
theorem said_next (d : Nat → Nat) (b : Nat) {at_ e : Nat} (h : at_ ≤ e) : said d b at_ (e + 1) = said d b at_ e ++ [d (b + e) - 1] := by
  unfold said
  rw [show e + 1 - at_ = (e - at_) + 1 by omega, List.range_succ, List.map_append]
  simp only [List.map_cons, List.map_nil]
  rw [show b + at_ + (e - at_) = b + e by omega]
/-- How many came from a place on. -/
def wait (d : Nat → Nat) (b at_ : Nat) : Nat := ((List.range (200 - at_)).filter fun j => decide (d (b + at_ + j) ≠ 0)).length
theorem wait_first {d : Nat → Nat} {b at_ : Nat} (ha : at_ < 200) : wait d b at_ = (if d (b + at_) ≠ 0 then 1 else 0) + wait d b (at_ + 1) := by
  unfold wait
  rw [show 200 - at_ = (200 - (at_ + 1)) + 1 by omega, List.range_succ_eq_map, List.filter_cons]
  have e : ((List.range (200 - (at_ + 1))).map Nat.succ).filter (fun j => decide (d (b + at_ + j) ≠ 0)) = ((List.range (200 - (at_ + 1))).filter (fun j => decide (d (b + (at_ + 1) + j) ≠ 0))).map Nat.succ := by
    rw [List.filter_map]
    congr 1
    refine List.filter_congr fun j _ => ?_
    show decide (d (b + at_ + (j + 1)) ≠ 0) = _
    rw [show b + at_ + (j + 1) = b + (at_ + 1) + j by omega]
  rw [e]
  by_cases h : d (b + at_) ≠ 0
  · rw [if_pos (by simpa using h), if_pos h, List.length_cons, List.length_map]; omega
  · rw [if_neg (by simpa using h), if_neg h, List.length_map]; omega
theorem wait_end (d : Nat → Nat) (b : Nat) : wait d b 200 = 0 := rfl
/-- What is read waits no longer. -/
theorem wait_read {d : Nat → Nat} {b : Nat} : ∀ (m : Nat) {at_ : Nat}, at_ + m ≤ 200 → (∀ j, at_ ≤ j → j < at_ + m → d (b + j) ≠ 0) → wait d b at_ = m + wait d b (at_ + m)
  | 0, at_, _, _ => by simp
  | m + 1, at_, h, hd => by
    rw [wait_first (by omega), if_pos (hd at_ (Nat.le_refl _) (by omega)), wait_read m (at_ := at_ + 1) (by omega) (fun j h1 h2 => hd j (by omega) (by omega)), show at_ + 1 + m = at_ + (m + 1) by omega]
    omega
theorem wait_none {d : Nat → Nat} {b at_ : Nat} (h : ∀ j, at_ ≤ j → j < 200 → d (b + j) = 0) : wait d b at_ = 0 := by
  unfold wait
  rw [List.length_eq_zero_iff, List.filter_eq_nil_iff]
  intro j hj
  have := List.mem_range.1 hj
  simp [h (at_ + j) (by omega) (by omega), Nat.add_assoc]
/-- Counted up to a place. -/
def waitTo (d : Nat → Nat) (b at_ i : Nat) : Nat := ((List.range (i - at_)).filter fun j => decide (d (b + at_ + j) ≠ 0)).length
theorem waitTo_none (d : Nat → Nat) (b at_ : Nat) : waitTo d b at_ at_ = 0 := by simp [waitTo]
theorem waitTo_next (d : Nat → Nat) (b : Nat) {at_ i : Nat} (h : at_ ≤ i) : waitTo d b at_ (i + 1) = waitTo d b at_ i + if d (b + i) ≠ 0 then 1 else 0 := by
  unfold waitTo
  rw [show i + 1 - at_ = (i - at_) + 1 by omega, List.range_succ, List.filter_append, List.length_append, List.filter_cons, List.filter_nil]
  rw [show b + at_ + (i - at_) = b + i by omega]
  by_cases h : d (b + i) ≠ 0
  · rw [if_pos (by simpa using h), if_pos h]; rfl
  · rw [if_neg (by simpa using h), if_neg h]; rfl
theorem waitTo_all (d : Nat → Nat) (b at_ : Nat) : waitTo d b at_ 200 = wait d b at_ := rfl
end Go.Proofs.Ytcleanjacijfoaa.Mux
