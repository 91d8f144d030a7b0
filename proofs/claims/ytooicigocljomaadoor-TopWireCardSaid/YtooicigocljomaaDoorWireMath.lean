/- Bytes as halves. No statement is proved here. -/
import Derived.Test.YtooicigocljomaaDoorLineMath
import Derived.Test.YtooicigocljomaaDoorCobsMath
import Derived.Test.YtooicigocljomaaDoorOnesMath1
import Derived.Test.YtooicigocljomaaDoorSub
namespace Go.Proofs.YtooicigocljomaaDoor.WireMath
open Go.RowKit Go.Proofs.YtooicigocljomaaDoor.App
set_option linter.unusedVariables false
set_option maxRecDepth 20000

/-- Bytes, each as two numbers. -/
def halves (w : List Int) : List Int := w.flatMap fun x => [x / 16, x % 16]
theorem halves_cons (x : Int) (w : List Int) : halves (x :: w) = x / 16 :: x % 16 :: halves w := rfl
theorem halves_snoc (w : List Int) (x : Int) : halves (w ++ [x]) = halves w ++ [x / 16] ++ [x % 16] := by simp [halves]
theorem halves_len (w : List Int) : (halves w).length = 2 * w.length := by
  induction w with
  | nil => rfl
  | cons x w ih => rw [halves_cons, List.length_cons, List.length_cons, ih, List.length_cons]; omega
theorem halves_upto {w : List Int} (h : ∀ x ∈ w, 1 ≤ x ∧ x ≤ 255) : LineMath.upto 15 (halves w) = true := by
  refine LineMath.upto_iff.2 fun x hx => ?_
  simp only [halves, List.mem_flatMap] at hx
  obtain ⟨y, hy, hx⟩ := hx
  have := h y hy
  simp only [List.mem_cons, List.not_mem_nil, or_false] at hx
  rcases hx with rfl | rfl <;> omega
theorem halves_get (w : List Int) : ∀ k : Nat, k < w.length → (halves w)[2 * k]?.getD 0 = (w[k]?.getD 0) / 16 ∧ (halves w)[2 * k + 1]?.getD 0 = (w[k]?.getD 0) % 16 := by
  induction w with
  | nil => intro k hk; simp at hk
  | cons x w ih =>
    intro k hk
    cases k with
    | zero => exact ⟨rfl, rfl⟩
    | succ k =>
      have := ih k (by simpa using hk)
      rw [halves_cons]
      have e1 : 2 * (k + 1) = 2 * k + 1 + 1 := by omega
      rw [e1]
      exact this
theorem halves_step {w : List Int} {k : Nat} (h : k < w.length) : halves (w.take (k + 1)) = halves (w.take k) ++ [(w[k]?.getD 0) / 16] ++ [(w[k]?.getD 0) % 16] := by
  rw [List.take_succ_eq_append_getElem h, halves_snoc, List.getElem?_eq_getElem h]; rfl
theorem take_step {w : List Int} {k : Nat} (h : k < w.length) : w.take (k + 1) = w.take k ++ [w[k]?.getD 0] := by
  rw [List.take_succ_eq_append_getElem h, List.getElem?_eq_getElem h]; rfl
theorem byt_wthn {l : List Int} (h : Ones.wthn l 255 = true) : CobsMath.byt l = true := CobsMath.byt_iff.2 (OnesMath.bytes_of h)
end Go.Proofs.YtooicigocljomaaDoor.WireMath
