/- The parts of a text. No statement is proved here. -/
import Derived.Test.YtcleanjacijfoaaPart
namespace Go.Proofs.Ytcleanjacijfoaa.Part
set_option linter.unusedVariables false

/-- A part that is not the last one; the first k parts; all of them. -/
def piece (s : ByteArray) (n k : Nat) : Prt := ⟨(k * n : Nat), true, s.extract (k * n) (k * n + n)⟩
def tail (s : ByteArray) (n k : Nat) : Prt := ⟨(k * n : Nat), false, s.extract (k * n) s.size⟩
def cuts (s : ByteArray) (n k : Nat) : List Prt := (List.range k).map (piece s n)
/-- How many are not the last one. -/
def more (s : ByteArray) (n : Nat) : Nat := (s.size - 1) / n
def parts (s : ByteArray) (n : Nat) : List Prt := cuts s n (more s n) ++ [tail s n (more s n)]
theorem cuts_len (s : ByteArray) (n k : Nat) : (cuts s n k).length = k := by simp [cuts]
theorem cuts_zero (s : ByteArray) (n : Nat) : cuts s n 0 = [] := rfl
theorem cuts_succ (s : ByteArray) (n k : Nat) : cuts s n (k + 1) = cuts s n k ++ [piece s n k] := by simp [cuts, List.range_succ]
theorem parts_len (s : ByteArray) (n : Nat) : (parts s n).length = more s n + 1 := by simp [parts, cuts_len]
theorem parts_get (s : ByteArray) (n k : Nat) (hk : k < more s n) : (parts s n)[k]? = some (piece s n k) := by
  unfold parts
  rw [List.getElem?_append_left (by rw [cuts_len]; exact hk)]
  simp [cuts, hk]
theorem parts_last (s : ByteArray) (n : Nat) : (parts s n)[more s n]? = some (tail s n (more s n)) := by
  unfold parts
  rw [List.getElem?_append_right (by rw [cuts_len]; exact Nat.le_refl _), cuts_len]
  simp
theorem more_le (s : ByteArray) (n : Nat) (h : 0 < n) : more s n * n ≤ s.size := by
  have : more s n * n ≤ s.size - 1 := by unfold more; exact Nat.div_mul_le_self _ _
  omega
theorem more_lt (s : ByteArray) (n k : Nat) (h : 0 < n) (hk : k * n + n < s.size) : k < more s n := by
  unfold more
  have h1 : (k + 1) * n ≤ s.size - 1 := by rw [Nat.succ_mul]; omega
  have := (Nat.le_div_iff_mul_le h).2 h1
  omega
theorem more_eq (s : ByteArray) (n k : Nat) (h : 0 < n) (hk : s.size ≤ k * n + n) (hl : k ≤ more s n) : k = more s n := by
  rcases Nat.lt_or_ge k (more s n) with h1 | h1
  · unfold more at h1
    have h2 : (k + 1) * n ≤ s.size - 1 := (Nat.le_div_iff_mul_le h).1 h1
    rw [Nat.succ_mul] at h2
    omega
  · omega
theorem parts_pos (s : ByteArray) (n : Nat) (h : 0 < n) (x : Prt) (hx : x ∈ parts s n) : 0 ≤ x.pos ∧ x.pos ≤ s.size := by
  have hm := more_le s n h
  unfold parts cuts at hx
  simp only [List.mem_append, List.mem_map, List.mem_range, List.mem_singleton] at hx
  rcases hx with ⟨k, hk, rfl⟩ | rfl
  · have : k * n ≤ more s n * n := Nat.mul_le_mul_right _ (by omega)
    unfold piece; simp only; omega
  · unfold tail; simp only; omega
/-- The number of an error of cutting, nought where there is none. -/
def cutBad (s : ByteArray) (n : Int) : Int := if 200 < s.size then 4 else if n < 1 ∨ 200 < n then 1 else if 40 < more s n.toNat + 1 then 4 else 0
end Go.Proofs.Ytcleanjacijfoaa.Part
