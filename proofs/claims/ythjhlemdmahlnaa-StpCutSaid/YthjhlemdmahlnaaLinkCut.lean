/- Slices of links, cut: their tails and heads, none too. No statement is proved here. -/
import Derived.Test.YthjhlemdmahlnaaLink
namespace Go.Proofs.Ythjhlemdmahlnaa.Vector
open Go.ChangeShapes Go.WideShapes Go.ChangeAt Go.RowKit Go.Proofs.Ythjhlemdmahlnaa.Kit Go.Proofs.Ythjhlemdmahlnaa.App Go.Proofs.Ythjhlemdmahlnaa.Cells
set_option linter.unusedVariables false
set_option maxRecDepth 20000

theorem sl_ty : Try.prog.underlying 22 = some (.slice (Try.prog.elem 22)) := by kernel_rfl
theorem size3 (W : World) : (sizeOf (Try.prog.elem 22)).run Try.prog W = .ok 3 W := by
  have h : (Try.prog.info? (Try.prog.elem 22)).map (fun i => i.size) = some 3 := by kernel_rfl
  obtain ⟨i, hi, hz⟩ := Option.map_eq_some_iff.1 h
  simp only [sizeOf, typeInfo, Sem.run_bind, run_program, Result.andThen_ok, hi, hz, Sem.run_pure]
/-- The tail of a slice of links: what the walk wants, and how it reads. -/
theorem tail_of {w : World} {p : Option Addr} {c n : Nat} {L : List Lk} (h : CI layL w p c L) (hn : n = L.length) (k : Nat) (hk : k ≤ n) (z : Int) (hz : z = (k : Int)) (r : Nat) (hr : n - k = r) : ∃ p2 c2, (∀ W, (Instr.sliceAt 22 (.slice p n c) (some (.int .i64 z)) none none).run Try.prog W = .ok (.slice p2 r c2) W) ∧
    (∀ W, (Instr.slice 22 (.slice p n c) (some (.int .i64 z)) none none).run Try.prog W = .ok (.slice p2 r c2) W) ∧ ∀ w', Below w.heap.size w w' → CI layL w' p2 c2 (L.drop k) := by
  subst hz
  subst hr
  have hc := h.1
  have hm := h.2.1
  have e : ∃ p2, (∀ W, (Instr.slice 22 (.slice p n c) (some (.int .i64 (k : Int))) none none).run Try.prog W = .ok (.slice p2 (n - k) (c - k)) W) ∧ (∀ b off, p = some ⟨b, off, none⟩ → k < n → p2 = some ⟨b, off + k * 3, none⟩) := by
    refine ⟨if c = k then p else Option.map (fun x => x.add (k * 3)) p, fun W => by
      rw [run_slice_l W _ _ _ _ sl_ty .i64 (k : Int) (by omega) (by omega), size3]
      simp only [Result.andThen_ok, sliced, Int.toNat_natCast], fun b off hp hkn => ?_⟩
    subst hp
    have hck : ¬ c = k := by omega
    simp [Addr.add, hck]
  obtain ⟨p2, e1, e2⟩ := e
  refine ⟨p2, c - k, fun W => by rw [run_sliceAt_slice W _ _ _ _ _ sl_ty]; exact e1 W, e1, fun w' hw => ?_⟩
  by_cases h1 : k < n
  · obtain ⟨b, off, hp, _⟩ := h.2.2 (by omega)
    rw [e2 b off hp h1]
    subst hp
    have := (CI.sub (h.below hw) k (L.length - k) (c - k) (by omega) (by omega) (by omega))
    rw [List.take_of_length_le (by rw [List.length_drop]; omega)] at this
    exact this
  · rw [List.drop_eq_nil_of_le (by omega)]
    exact CI.empty _ _ _ _ (by omega)
/-- The head. -/
theorem head_of {w : World} {p : Option Addr} {c n : Nat} {L : List Lk} (h : CI layL w p c L) (hn : n = L.length) (k : Nat) (hk : k ≤ n) : ∃ p2 c2, (∀ W, (Instr.sliceAt 22 (.slice p n c) none (some (.int .i64 (k : Int))) none).run Try.prog W = .ok (.slice p2 k c2) W) ∧
    (∀ W, (Instr.slice 22 (.slice p n c) none (some (.int .i64 (k : Int))) none).run Try.prog W = .ok (.slice p2 k c2) W) ∧ ∀ w', Below w.heap.size w w' → CI layL w' p2 c2 (L.take k) := by
  have hc := h.1
  have hm := h.2.1
  have e : ∃ p2, (∀ W, (Instr.slice 22 (.slice p n c) none (some (.int .i64 (k : Int))) none).run Try.prog W = .ok (.slice p2 k c) W) ∧ (∀ b off, p = some ⟨b, off, none⟩ → 0 < k → p2 = some ⟨b, off, none⟩) := by
    refine ⟨if c = 0 then p else Option.map (fun x => x.add (0 * 3)) p, fun W => by
      rw [run_slice_h W _ _ _ _ sl_ty .i64 (k : Int) (by omega) (by omega), size3]
      simp only [Result.andThen_ok, sliced, Int.toNat_natCast, Nat.sub_zero], fun b off hp hkn => ?_⟩
    subst hp
    have hck : ¬ c = 0 := by omega
    simp [Addr.add, hck]
  obtain ⟨p2, e1, e2⟩ := e
  refine ⟨p2, c, fun W => by rw [run_sliceAt_slice W _ _ _ _ _ sl_ty]; exact e1 W, e1, fun w' hw => ?_⟩
  by_cases h1 : 0 < k
  · obtain ⟨b, off, hp, _⟩ := h.2.2 (by omega)
    rw [e2 b off hp h1]
    subst hp
    have := (CI.sub (h.below hw) 0 k c (by omega) (by omega) hm)
    rw [Nat.zero_mul, Nat.add_zero, List.drop_zero] at this
    exact this
  · have : k = 0 := by omega
    subst this
    exact CI.empty _ _ _ _ hm
end Go.Proofs.Ythjhlemdmahlnaa.Vector
