/- The alternating bit protocol by how many are known and how many are got. No statement is proved here. -/
import Derived.Test.YthiebkkfgegebaaFate
namespace Go.Proofs.Ythiebkkfgegebaa.AbpMath
open Go.Proofs.Ythiebkkfgegebaa.Fate

/-- So many known, so many got, after some fates. -/
def run (n : Nat) : List Fat → Nat → Nat → Nat × Nat
  | [], k, g => (k, g)
  | f :: fs, k, g => if k = n then (k, g) else if f.there = true then run n fs k g else if f.back = true then run n fs k (k + 1) else run n fs (k + 1) (k + 1)
theorem run_end (n : Nat) (fs : List Fat) (g : Nat) : run n fs n g = (n, g) := by
  cases fs with
  | nil => rfl
  | cons f fs => rw [run, if_pos rfl]
theorem run_lost {n : Nat} {f : Fat} {fs : List Fat} {k g : Nat} (h : k ≠ n) (h1 : f.there = true) : run n (f :: fs) k g = run n fs k g := by rw [run, if_neg h, if_pos h1]
theorem run_back {n : Nat} {f : Fat} {fs : List Fat} {k g : Nat} (h : k ≠ n) (h1 : f.there = false) (h2 : f.back = true) : run n (f :: fs) k g = run n fs k (k + 1) := by rw [run, if_neg h, if_neg (by rw [h1]; decide), if_pos h2]
theorem run_fine {n : Nat} {f : Fat} {fs : List Fat} {k g : Nat} (h : k ≠ n) (h1 : f.there = false) (h2 : f.back = false) : run n (f :: fs) k g = run n fs (k + 1) (k + 1) := by rw [run, if_neg h, if_neg (by rw [h1]; decide), if_neg (by rw [h2]; decide)]
theorem run_between (n : Nat) : ∀ (fs : List Fat) (k g : Nat), k ≤ g → g ≤ k + 1 → k ≤ n → g ≤ n → (run n fs k g).1 ≤ (run n fs k g).2 ∧ (run n fs k g).2 ≤ (run n fs k g).1 + 1 ∧ (run n fs k g).1 ≤ n ∧ (run n fs k g).2 ≤ n
  | [], k, g, h1, h2, h3, h4 => ⟨h1, h2, h3, h4⟩
  | f :: fs, k, g, h1, h2, h3, h4 => by
    rw [run]
    by_cases e : k = n
    · rw [if_pos e]; exact ⟨h1, h2, h3, h4⟩
    · rw [if_neg e]
      by_cases e1 : f.there = true
      · rw [if_pos e1]; exact run_between n fs k g h1 h2 h3 h4
      · rw [if_neg e1]
        by_cases e2 : f.back = true
        · rw [if_pos e2]; exact run_between n fs k (k + 1) (by omega) (by omega) (by omega) (by omega)
        · rw [if_neg e2]; exact run_between n fs (k + 1) (k + 1) (by omega) (by omega) (by omega) (by omega)
/-- How many fates lose nothing. -/
def fine (fs : List Fat) : Nat := fs.countP fun f => !f.there && !f.back
theorem run_fines (n : Nat) : ∀ (fs : List Fat) (k g : Nat), k ≤ n → (run n fs k g).1 = min n (k + fine fs)
  | [], k, g, h => by show k = min n (k + 0); omega
  | f :: fs, k, g, h => by
    have hf : fine (f :: fs) = fine fs + (if (!f.there && !f.back) = true then 1 else 0) := List.countP_cons ..
    rw [run, hf]
    by_cases e : k = n
    · rw [if_pos e]; show k = _; omega
    · rw [if_neg e]
      by_cases e1 : f.there = true
      · rw [if_pos e1, if_neg (by simp [e1]), run_fines n fs k g h]; rfl
      · rw [if_neg e1]
        by_cases e2 : f.back = true
        · rw [if_pos e2, if_neg (by simp [e2]), run_fines n fs k (k + 1) h]; rfl
        · rw [if_neg e2, if_pos (by simp [e1, e2]), run_fines n fs (k + 1) (k + 1) (by omega)]; omega
theorem fine_take {l : List Fat} {k : Nat} {x : Fat} (h : l[k]? = some x) : fine (l.take (k + 1)) = fine (l.take k) + (if (!x.there && !x.back) = true then 1 else 0) := by
  unfold fine
  rw [List.take_add_one, h, List.countP_append]
  congr 1
  show List.countP _ [x] = _
  rw [List.countP_cons, List.countP_nil, Nat.zero_add]
theorem fine_le (l : List Fat) (k : Nat) : fine (l.take k) ≤ k := by
  have h : fine (l.take k) ≤ (l.take k).length := List.countP_le_length
  rw [List.length_take] at h
  omega
theorem drop_at {l : List Fat} {k : Nat} {x : Fat} (h : l[k]? = some x) : l.drop k = x :: l.drop (k + 1) := by
  obtain ⟨hk, e⟩ := List.getElem?_eq_some_iff.1 h
  rw [List.drop_eq_getElem_cons hk, e]
end Go.Proofs.Ythiebkkfgegebaa.AbpMath
