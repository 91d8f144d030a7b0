/- The parts of a text, put together again: in whatever order, without one, cut again. No statement is proved here. -/
import Derived.Test.YtcleanjacijfoaaJoinMath
namespace Go.Proofs.Ytcleanjacijfoaa.Part
set_option linter.unusedVariables false

def text (s : ByteArray) : List UInt8 := s.data.toList
theorem text_len (s : ByteArray) : (text s).length = s.size := rfl
theorem ext_get (s : ByteArray) (a b i : Nat) : (text (s.extract a b))[i]? = if i < b - a then (text s)[a + i]? else none := by
  unfold text
  rw [ByteArray.data_extract, Array.toList_extract, List.extract_eq_take_drop, List.getElem?_take]
  split
  · rw [List.getElem?_drop]
  · rfl
theorem ext_len (s : ByteArray) (a b : Nat) : (text (s.extract a b)).length = min b s.size - a := by
  rw [text_len, ByteArray.size_extract]
/-- A stretch of a text is one of it. -/
theorem of_ext (s : ByteArray) (a b : Nat) (m : Bool) (hab : a ≤ b) (hb : b ≤ s.size) (hs : s.size ≤ 200) (hm : m = false → b = s.size) : Of (text s) ⟨(a : Nat), m, s.extract a b⟩ := by
  have hl : (Prt.bs ⟨(a : Nat), m, s.extract a b⟩).length = b - a := by
    have := ext_len s a b
    unfold Prt.bs; unfold text at this; simp only; rw [this]; omega
  refine ⟨(right_iff _).2 ?_, fun h => ?_, fun i hc => ?_⟩
  · rw [hl]; simp only; omega
  · have := hm h
    unfold ends
    rw [hl, text_len]; simp only; omega
  · unfold Prt.covers at hc
    rw [hl] at hc
    have hat : (Prt.at ⟨(a : Nat), m, s.extract a b⟩) = a := by unfold Prt.at; simp
    rw [hat] at hc ⊢
    have hg : (Prt.bs ⟨(a : Nat), m, s.extract a b⟩)[i - a]? = (text s)[i]? := by
      have := ext_get s a b (i - a)
      rw [if_pos (by omega), show a + (i - a) = i by omega] at this
      exact this
    rw [hg]
    have hlt : i < (text s).length := by rw [text_len]; omega
    rw [List.getElem?_eq_getElem hlt]; rfl
theorem cov_ext (s : ByteArray) (a b i : Nat) (m : Bool) (hb : b ≤ s.size) : (Prt.covers ⟨(a : Nat), m, s.extract a b⟩ i) ↔ a ≤ i ∧ i < b := by
  have hl : (Prt.bs ⟨(a : Nat), m, s.extract a b⟩).length = b - a := by
    have := ext_len s a b
    unfold Prt.bs; unfold text at this; simp only; rw [this]; omega
  have hat : (Prt.at ⟨(a : Nat), m, s.extract a b⟩) = a := by unfold Prt.at; simp
  unfold Prt.covers
  rw [hl, hat]; omega
theorem piece_in (s : ByteArray) (n k : Nat) (h : 0 < n) (hk : k < more s n) : k * n + n < s.size := by
  unfold more at hk
  have h2 : (k + 1) * n ≤ s.size - 1 := (Nat.le_div_iff_mul_le h).1 hk
  rw [Nat.succ_mul] at h2
  omega
theorem tail_in (s : ByteArray) (n : Nat) (h : 0 < n) : more s n * n ≤ s.size ∧ s.size ≤ more s n * n + n := by
  refine ⟨more_le s n h, ?_⟩
  have h1 : s.size - 1 < (more s n + 1) * n := by
    unfold more
    have := Nat.lt_mul_div_succ (s.size - 1) h
    rw [Nat.mul_comm] at this
    exact this
  rw [Nat.succ_mul] at h1
  omega
theorem mem_parts (s : ByteArray) (n : Nat) (x : Prt) : x ∈ parts s n ↔ (∃ k, k < more s n ∧ piece s n k = x) ∨ tail s n (more s n) = x := by
  unfold parts cuts
  simp only [List.mem_append, List.mem_map, List.mem_range, List.mem_singleton]
  constructor
  · rintro (h | h)
    · exact .inl h
    · exact .inr h.symm
  · rintro (h | h)
    · exact .inl h
    · exact .inr h.symm
theorem of_parts (s : ByteArray) (n : Nat) (h : 0 < n) (hs : s.size ≤ 200) (x : Prt) (hx : x ∈ parts s n) : Of (text s) x := by
  rcases (mem_parts s n x).1 hx with ⟨k, hk, rfl⟩ | rfl
  · have := piece_in s n k h hk
    exact of_ext s _ _ true (by omega) (by omega) hs (fun h => by cases h)
  · have := tail_in s n h
    exact of_ext s _ _ false (by omega) (by omega) hs (fun _ => rfl)
theorem cov_piece (s : ByteArray) (n k i : Nat) (h : 0 < n) (hk : k < more s n) : (piece s n k).covers i ↔ k * n ≤ i ∧ i < k * n + n := by
  have := piece_in s n k h hk
  exact cov_ext s _ _ i true (by omega)
theorem cov_tail (s : ByteArray) (n i : Nat) (h : 0 < n) : (tail s n (more s n)).covers i ↔ more s n * n ≤ i ∧ i < s.size := cov_ext s _ _ i false (Nat.le_refl _)
theorem cov_parts (s : ByteArray) (n i : Nat) (h : 0 < n) (hi : i < s.size) : ∃ x ∈ parts s n, x.covers i := by
  by_cases hk : i / n < more s n
  · refine ⟨piece s n (i / n), (mem_parts s n _).2 (.inl ⟨_, hk, rfl⟩), (cov_piece s n _ i h hk).2 ?_⟩
    have h1 := Nat.div_mul_le_self i n
    have h2 := Nat.lt_mul_div_succ i h
    rw [Nat.mul_comm, Nat.succ_mul] at h2
    omega
  · refine ⟨tail s n (more s n), (mem_parts s n _).2 (.inr rfl), (cov_tail s n i h).2 ⟨?_, hi⟩⟩
    have h1 := Nat.div_mul_le_self i n
    have h2 : more s n * n ≤ i / n * n := Nat.mul_le_mul_right _ (by omega)
    omega
/-- In whatever order, however often. -/
theorem whole_parts (s : ByteArray) (n : Nat) (l : List Prt) (h : 0 < n) (hs : s.size ≤ 200) (h1 : ∀ x ∈ l, x ∈ parts s n) (h2 : ∀ x ∈ parts s n, x ∈ l) : Whole (text s) l :=
  ⟨fun x hx => of_parts s n h hs x (h1 x hx), ⟨_, h2 _ ((mem_parts s n _).2 (.inr rfl)), rfl⟩, fun i hi => by
    obtain ⟨x, hx, hc⟩ := cov_parts s n i h hi
    exact ⟨x, h2 x hx, hc⟩⟩
/-- Without one. -/
theorem lack_parts (s : ByteArray) (n k : Nat) (h : 0 < n) (hs : s.size ≤ 200) (h40 : more s n < 40) (hk : k ≤ more s n) : joinM ((parts s n).take k ++ (parts s n).drop (k + 1)) = .error 5 := by
  have hl := parts_len s n
  have hmem : ∀ x ∈ (parts s n).take k ++ (parts s n).drop (k + 1), ∃ j, j ≠ k ∧ (parts s n)[j]? = some x := fun x hx => by
    rcases List.mem_append.1 hx with hx | hx
    · obtain ⟨j, hj⟩ := List.mem_iff_getElem?.1 hx
      rw [List.getElem?_take] at hj
      by_cases h : j < k
      · rw [if_pos h] at hj; exact ⟨j, by omega, hj⟩
      · rw [if_neg h] at hj; cases hj
    · obtain ⟨j, hj⟩ := List.mem_iff_getElem?.1 hx
      rw [List.getElem?_drop] at hj
      exact ⟨k + 1 + j, by omega, hj⟩
  have hform : ∀ j x, (parts s n)[j]? = some x → (j < more s n ∧ x = piece s n j) ∨ (j = more s n ∧ x = tail s n (more s n)) := fun j x hj => by
    rcases Nat.lt_trichotomy j (more s n) with h1 | h1 | h1
    · rw [parts_get s n j h1] at hj; exact .inl ⟨h1, (Option.some.inj hj).symm⟩
    · subst h1; rw [parts_last] at hj; exact .inr ⟨rfl, (Option.some.inj hj).symm⟩
    · rw [List.getElem?_eq_none (by omega)] at hj; cases hj
  refine join_lack (s := text s) (fun x hx => ?_) (by rw [text_len]; exact hs) (by rw [List.length_append, List.length_take, List.length_drop]; omega) ?_
  · obtain ⟨j, _, hj⟩ := hmem x hx
    exact of_parts s n h hs x (List.mem_of_getElem? hj)
  · rcases Nat.lt_or_ge k (more s n) with hk1 | hk1
    · have hin := piece_in s n k h hk1
      refine .inr ⟨k * n, by rw [text_len]; omega, ?_⟩
      rintro ⟨x, hx, hc⟩
      obtain ⟨j, hjk, hj⟩ := hmem x hx
      rcases hform j x hj with ⟨hj1, rfl⟩ | ⟨rfl, rfl⟩
      · rw [cov_piece s n j _ h hj1] at hc
        rcases Nat.lt_or_ge j k with h1 | h1
        · have : (j + 1) * n ≤ k * n := Nat.mul_le_mul_right _ h1
          rw [Nat.succ_mul] at this
          omega
        · have : (k + 1) * n ≤ j * n := Nat.mul_le_mul_right _ (by omega)
          rw [Nat.succ_mul] at this
          omega
      · rw [cov_tail s n _ h] at hc
        have : (k + 1) * n ≤ more s n * n := Nat.mul_le_mul_right _ hk1
        rw [Nat.succ_mul] at this
        omega
    · refine .inl ?_
      rintro ⟨x, hx, hm⟩
      obtain ⟨j, hjk, hj⟩ := hmem x hx
      rcases hform j x hj with ⟨hj1, rfl⟩ | ⟨rfl, rfl⟩
      · cases hm
      · omega
end Go.Proofs.Ytcleanjacijfoaa.Part
