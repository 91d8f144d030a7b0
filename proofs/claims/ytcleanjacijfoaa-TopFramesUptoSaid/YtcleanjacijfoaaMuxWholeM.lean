/- Package mux: a text that comes in pieces, in whatever order. No statement is proved here. -/
import Derived.Test.YtcleanjacijfoaaMuxMath
namespace Go.Proofs.Ytcleanjacijfoaa.Mux
set_option linter.unusedVariables false
set_option maxRecDepth 20000

/-- What came of a stream is some of a text. -/
def Some_ (d : Nat → Nat) (b : Nat) (T : List Nat) : Prop := ∀ j, j < 200 → d (b + j) = 0 ∨ (j < T.length ∧ d (b + j) = T[j]?.getD 0 + 1)
/-- A piece of a text. -/
def piece (T : List Nat) (a e : Nat) : List Nat := (T.drop a).take (e - a)
theorem piece_len {T : List Nat} {a e : Nat} (h1 : a ≤ e) (h2 : e ≤ T.length) : (piece T a e).length = e - a := by
  unfold piece; rw [List.length_take, List.length_drop]; omega
theorem piece_at {T : List Nat} {a e i : Nat} (hi : i < e - a) : (piece T a e)[i]?.getD 0 = T[a + i]?.getD 0 := by
  unfold piece
  rw [List.getElem?_take, if_pos hi, List.getElem?_drop]
/-- A piece comes: it meets no other byte. -/
theorem some_clash {d : Nat → Nat} {b : Nat} {T : List Nat} (H : Some_ d b T) (hT : T.length ≤ 200) {a e : Nat} (h1 : a ≤ e) (h2 : e ≤ T.length) : ¬ clash d (b + a) (piece T a e) := by
  rintro ⟨i, hi, h3, h4⟩
  rw [piece_len h1 h2] at hi
  rw [piece_at hi, Nat.add_assoc] at h4
  rw [Nat.add_assoc] at h3
  rcases H (a + i) (by omega) with h | ⟨_, h⟩
  · exact h3 h
  · exact h4 h
theorem some_put {d : Nat → Nat} {b : Nat} {T : List Nat} (H : Some_ d b T) (hT : T.length ≤ 200) {a e : Nat} (h1 : a ≤ e) (h2 : e ≤ T.length) : Some_ (put d (b + a) (piece T a e)) b T := by
  intro j hj
  by_cases hin : a ≤ j ∧ j < e
  · obtain ⟨i, rfl⟩ : ∃ i, j = a + i := ⟨j - a, by omega⟩
    rw [← Nat.add_assoc, put_in _ _ _ (by rw [piece_len h1 h2]; omega), piece_at (by omega)]
    exact .inr ⟨by omega, rfl⟩
  · rw [put_out _ _ _ (by rw [piece_len h1 h2]; omega)]
    exact H j hj
/-- What the piece brings is there, and what was there stays. -/
theorem put_there (d : Nat → Nat) (b : Nat) {T : List Nat} {a e j : Nat} (h1 : a ≤ e) (h2 : e ≤ T.length) (hj : (a ≤ j ∧ j < e) ∨ d (b + j) ≠ 0) : put d (b + a) (piece T a e) (b + j) ≠ 0 := by
  by_cases hin : a ≤ j ∧ j < e
  · obtain ⟨i, rfl⟩ : ∃ i, j = a + i := ⟨j - a, by omega⟩
    rw [← Nat.add_assoc, put_in _ _ _ (by rw [piece_len h1 h2]; omega)]
    omega
  · rw [put_out _ _ _ (by rw [piece_len h1 h2]; omega)]
    exact hj.resolve_left hin
/-- What is read is the text as it goes on. -/
theorem some_said {d : Nat → Nat} {b : Nat} {T : List Nat} (H : Some_ d b T) {r e : Nat} (h1 : r ≤ e) (h2 : e ≤ 200) (h3 : ∀ j, r ≤ j → j < e → d (b + j) ≠ 0) : (e ≤ T.length ∨ r = e) ∧ said d b r e = piece T r e := by
  have hj : ∀ j, r ≤ j → j < e → j < T.length ∧ d (b + j) = T[j]?.getD 0 + 1 := fun j hj1 hj2 => (H j (by omega)).resolve_left (h3 j hj1 hj2)
  have hl : e ≤ T.length ∨ r = e := by
    by_cases h : r = e
    · exact .inr h
    · have := (hj (e - 1) (by omega) (by omega)).1
      exact .inl (by omega)
  refine ⟨hl, ?_⟩
  rcases hl with hl | rfl
  · refine List.ext_getElem? fun i => ?_
    unfold said piece
    rw [List.getElem?_map, List.getElem?_take, List.getElem?_drop]
    by_cases hi : i < e - r
    · rw [if_pos hi, List.getElem?_range hi, Option.map_some, Nat.add_assoc, (hj (r + i) (by omega) (by omega)).2]
      have hlt : r + i < T.length := by omega
      rw [List.getElem?_eq_getElem hlt]
      simp
    · rw [if_neg hi, List.getElem?_eq_none (by rw [List.length_range]; omega), Option.map_none]
  · rw [said_none]; unfold piece; rw [Nat.sub_self, List.take_zero]
/-- Read one after the other: the text's beginning. -/
theorem piece_join {T : List Nat} {r e : Nat} (h1 : r ≤ e) : T.take r ++ piece T r e = T.take e := by
  unfold piece
  rw [← List.take_add]
  congr 1
  omega
/-- All of it came: it is read to its end, and nothing waits behind it. -/
theorem some_fin {d : Nat → Nat} {b : Nat} {T : List Nat} (H : Some_ d b T) (hT : T.length ≤ 200) {r : Nat} (hr : r ≤ T.length) (hall : ∀ j, j < T.length → d (b + j) ≠ 0) : fin d b r = T.length := by
  refine fin_uniq (by omega) hr hT (fun j _ hj => hall j hj) ?_
  by_cases h : T.length = 200
  · exact .inl h
  · exact .inr ((H T.length (by omega)).resolve_right (fun h2 => by omega))
theorem some_wait {d : Nat → Nat} {b : Nat} {T : List Nat} (H : Some_ d b T) (hT : T.length ≤ 200) : wait d b T.length = 0 :=
  wait_none fun j h1 h2 => (H j h2).resolve_right (fun h3 => by omega)
/-- The end of what can be read lies in the text. -/
theorem some_end {d : Nat → Nat} {b : Nat} {T : List Nat} (H : Some_ d b T) {r : Nat} (hr : r ≤ T.length) (h2 : r ≤ 200) : fin d b r ≤ T.length := by
  obtain ⟨g1, g2, g3, _⟩ := fin_spec d b h2
  rcases (some_said H g1 g2 g3).1 with h | h <;> omega
/-- So many pieces cover a text. -/
theorem covers {n size : Nat} (hs : 1 ≤ size) {j : Nat} (hj : j < n) : ∃ k, k < (n + size - 1) / size ∧ k * size ≤ j ∧ j < min (k * size + size) n := by
  refine ⟨j / size, ?_, Nat.div_mul_le_self j size, ?_⟩
  · rw [Nat.div_lt_iff_lt_mul (by omega)]
    have h1 := Nat.div_add_mod (n + size - 1) size
    have h2 := Nat.mod_lt (n + size - 1) (show 0 < size by omega)
    have h3 : (n + size - 1) / size * size = size * ((n + size - 1) / size) := Nat.mul_comm _ _
    omega
  · have h1 := Nat.div_add_mod j size
    have h2 := Nat.mod_lt j (show 0 < size by omega)
    have h3 : j / size * size = size * (j / size) := Nat.mul_comm _ _
    omega
theorem piece_begin {n size k : Nat} (hs : 1 ≤ size) (hk : k < (n + size - 1) / size) : k * size < n := by
  have h1 : (k + 1) * size ≤ n + size - 1 := Nat.le_trans (Nat.mul_le_mul_right _ hk) (Nat.div_mul_le_self _ _)
  rw [Nat.add_mul] at h1
  omega
end Go.Proofs.Ytcleanjacijfoaa.Mux
