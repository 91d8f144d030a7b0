/- A timer's numbers, as plain mathematics. No statement is proved here. -/
import Derived.WalkKit
namespace Go.Proofs.Ytjknojfdlpgicaa.RttMath
set_option linter.unusedVariables false

def dist (a b : Int) : Int := if a < b then b - a else a - b
def more (p : Int) : Int := if 4 * p ≤ 1 then 1 else 4 * p
def cap (x : Int) : Int := if 100000 < x then 100000 else x
def smooth (s k : Int) : Int := if s = -1 then k else (7 * s + k) / 8
def spread (s p k : Int) : Int := if s = -1 then k / 2 else (3 * p + dist k s) / 4
def wait (s p : Int) : Int := cap (s + more p)
/-- What is known of a timer's numbers. -/
def Ok (s p W : Int) : Prop := (s = -1 ∧ p = 0 ∨ 0 ≤ s ∧ s ≤ 100000 ∧ 0 ≤ p ∧ p ≤ 100000) ∧ 1 ≤ W ∧ W ≤ 100000

theorem ok_new {W : Int} (h : 1 ≤ W) (h2 : W ≤ 100000) : Ok (-1) 0 W := ⟨.inl ⟨rfl, rfl⟩, h, h2⟩
theorem ok_take {s p W k : Int} (h : Ok s p W) (h1 : 0 ≤ k) (h2 : k ≤ 100000) : Ok (smooth s k) (spread s p k) (wait (smooth s k) (spread s p k)) := by
  unfold Ok at *
  obtain ⟨h, h3, h4⟩ := h
  unfold wait cap more smooth spread dist
  rcases h with ⟨rfl, rfl⟩ | ⟨a, b, c, d⟩
  · simp only [if_pos]
    split <;> split <;> omega
  · rw [if_neg (by omega), if_neg (by omega)]
    split <;> split <;> split <;> omega
theorem ok_late {s p W : Int} (h : Ok s p W) : Ok s p (cap (2 * W)) := by
  obtain ⟨h, h3, h4⟩ := h
  refine ⟨h, ?_, ?_⟩ <;> unfold cap <;> split <;> omega
theorem known {s p W : Int} (h : Ok s p W) (hs : s ≠ -1) : 0 ≤ s ∧ s ≤ 100000 ∧ 0 ≤ p ∧ p ≤ 100000 := by
  rcases h.1 with ⟨a, _⟩ | a
  · exact absurd a hs
  · exact a
theorem taken {s p W k : Int} (h : Ok s p W) (h1 : 0 ≤ k) : smooth s k ≠ -1 := by
  unfold smooth
  rcases h.1 with ⟨rfl, rfl⟩ | ⟨a, b, c, d⟩
  · rw [if_pos rfl]; omega
  · rw [if_neg (by omega)]; omega
end Go.Proofs.Ytjknojfdlpgicaa.RttMath
