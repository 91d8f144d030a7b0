/- Shares of one link, and that halving comes: the mathematics. No statement is proved here. -/
import Derived.Test.YtggnpecmldnmnaaMaxMath
import Derived.Test.YtggnpecmldnmnaaAimdMath
namespace Go.Proofs.Ytggnpecmldnmnaa.Maxmin
open Go.Proofs.Ytggnpecmldnmnaa.Drr
set_option linter.unusedVariables false

/-- So many flows over one link. -/
def ones (m : Nat) : List (List Int) := List.replicate m [0]
theorem ones_len (m : Nat) : (ones m).length = m := List.length_replicate
theorem ones_row {m i : Nat} (hi : i < m) : row (ones m) i = [0] := by
  unfold row ones
  rw [List.getElem?_replicate, if_pos hi]; rfl
theorem ones_good {c : Int} (hc : 0 ≤ c ∧ c ≤ 1000) {m : Nat} (hm : m ≤ 5) : Maxmin.Good [c] (ones m) :=
  ⟨by simp, by rw [ones_len]; exact hm, fun x hx => by rw [List.mem_singleton.1 hx]; exact hc, fun w hw => by rw [(List.mem_replicate.1 hw).2]; simp,
    fun w hw x hx => by
      rw [(List.mem_replicate.1 hw).2] at hx
      rw [List.mem_singleton.1 hx]; simp, fun w hw => by rw [(List.mem_replicate.1 hw).2]; simp⟩
theorem ones_share {c : Int} (hc : 0 ≤ c ∧ c ≤ 1000) {m : Nat} (h1 : 1 ≤ m) (hm : m ≤ 5) {k : Nat} {r : Nat → Int} (hr : Runs [c] (ones m) (fun _ => 0) all k r) (i : Nat) (hi : i < m) : r i = c / (m : Int) := by
  obtain ⟨e1, e2, e3⟩ := ends (ones_good hc hm) hr
  rw [ones_len] at e1 e3
  have heq : ∀ j, j < m → r j = r 0 := fun j hj => by
    obtain ⟨x, hx, _, h3⟩ := e3 0 (by omega)
    obtain ⟨y, hy, _, h4⟩ := e3 j hj
    rw [ones_row (by omega)] at hx
    rw [ones_row hj] at hy
    have a := h3 j hj (by rw [ones_row hj]; exact hx)
    have b := h4 0 (by omega) (by rw [ones_row (by omega)]; exact hy)
    omega
  have hld : ∀ (f : Nat → Int) (z : Int), (∀ j, j < m → f j = z) → ld (ones m) f 0 = z * (m : Int) := fun f z hf => by
    unfold ld
    rw [ones_len]
    have := su_congr (F := List.range m) (f := fun i => if (0 : Int) ∈ row (ones m) i then f i else 0) (g := fun _ => z) (fun j hj => by
      have hj := List.mem_range.1 hj
      show (if (0 : Int) ∈ row (ones m) j then f j else 0) = z
      rw [ones_row hj, if_pos (by simp), hf j hj])
    rw [this, su_const, List.length_range]
  have h0 := e2 0 (Int.le_refl _) (by simp)
  obtain ⟨x, hx, h2, _⟩ := e3 0 (by omega)
  rw [ones_row (by omega)] at hx
  have hx0 := List.mem_singleton.1 hx
  subst hx0
  have hus : us (ones m) all 0 = m := by
    unfold us
    rw [hld (fun i => if all i = true then 1 else 0) 1 (fun j _ => rfl)]; omega
  have hlf : lf [c] (ones m) r 0 = c - r 0 * (m : Int) := by
    unfold lf
    rw [hld r (r 0) heq]; rfl
  rw [hus, hlf] at h2
  rw [hlf] at h0
  rw [heq i hi]
  have hmp : (0 : Int) < (m : Int) := by omega
  have a1 : r 0 ≤ c / (m : Int) := (Int.le_ediv_iff_mul_le hmp).2 (by omega)
  have a2 : c / (m : Int) < r 0 + 1 := (Int.ediv_lt_iff_lt_mul hmp).2 (by rw [Int.add_mul]; omega)
  omega
theorem halved_soon {l : List Int} (h1 : 1 ≤ l.length) (h0 : ∀ x ∈ l, 0 ≤ x ∧ x ≤ 1000) : 0 < AimdMath.H 20 l 400 := by
  have hm : ∀ k j, AimdMath.H 20 l k ≤ AimdMath.H 20 l (k + j) := fun k j => by
    induction j with
    | zero => exact Nat.le_refl _
    | succ j ih => rw [← Nat.add_assoc, AimdMath.H_succ]; omega
  have hz : ∀ k, AimdMath.H 20 l k = 0 → (AimdMath.rates 20 l k).sum = l.sum + (k : Int) * l.length := fun k => by
    induction k with
    | zero => intro _; rw [AimdMath.rates_zero]; simp
    | succ k ih =>
      intro h
      have hk := hm k 1
      have h2 := ih (by omega)
      by_cases ho : 20 < (AimdMath.rates 20 l k).sum
      · rw [AimdMath.H_over ho] at h; omega
      · rw [AimdMath.rates_under ho, AimdMath.sum_more, AimdMath.rates_len, h2]
        rw [Int.natCast_add, Int.add_mul]; simp; omega
  have hs := (AimdMath.sum_bound h0).1
  rcases Nat.eq_zero_or_pos (AimdMath.H 20 l 21) with h | h
  · have h2 := hz 21 h
    have ho : 20 < (AimdMath.rates 20 l 21).sum := by rw [h2]; omega
    have h3 : AimdMath.H 20 l 22 = AimdMath.H 20 l 21 + 1 := AimdMath.H_over ho
    have h4 : AimdMath.H 20 l 22 ≤ AimdMath.H 20 l 400 := hm 22 378
    omega
  · have h4 : AimdMath.H 20 l 21 ≤ AimdMath.H 20 l 400 := hm 21 379
    omega
end Go.Proofs.Ytggnpecmldnmnaa.Maxmin
