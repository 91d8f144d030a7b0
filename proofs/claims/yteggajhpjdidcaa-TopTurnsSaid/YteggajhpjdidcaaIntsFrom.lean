/- The tail of a slice of numbers, of nothing too: what the walk wants, and how it reads. General. No statement is proved here. -/
import Derived.Test.YteggajhpjdidcaaSub
import Derived.Laws.Slices
namespace Go.Proofs.Yteggajhpjdidcaa.App
open Go.ChangeShapes Go.WideShapes Go.ChangeAt Go.RowKit Go.Proofs.Yteggajhpjdidcaa.Kit
set_option linter.unusedVariables false
set_option maxRecDepth 20000

theorem slI : Try.prog.underlying 22 = some (.slice (Try.prog.elem 22)) := by kernel_rfl
theorem size1 (W : World) : (sizeOf (Try.prog.elem 22)).run Try.prog W = .ok 1 W := by
  have h : (Try.prog.info? (Try.prog.elem 22)).map (fun i => i.size) = some 1 := by kernel_rfl
  obtain ⟨i, hi, hz⟩ := Option.map_eq_some_iff.1 h
  simp only [sizeOf, typeInfo, Sem.run_bind, run_program, Result.andThen_ok, hi, hz, Sem.run_pure]
theorem ints_from {w : World} {p : Option Addr} {c n : Nat} {l : List Int} (h : Ints w p c l) (hn : n = l.length) (k : Nat) (hk : k ≤ n) (r : Nat) (hr : n - k = r) : ∃ p2 c2, (∀ W, (Instr.sliceAt 22 (.slice p n c) (some (.int .i64 (k : Int))) none none).run Try.prog W = .ok (.slice p2 r c2) W) ∧
    (∀ W, (Instr.slice 22 (.slice p n c) (some (.int .i64 (k : Int))) none none).run Try.prog W = .ok (.slice p2 r c2) W) ∧ ∀ w', Below w.heap.size w w' → Ints w' p2 c2 (l.drop k) := by
  subst hr
  have hc := h.1
  have hm := h.2.1
  have e : ∃ p2, (∀ W, (Instr.slice 22 (.slice p n c) (some (.int .i64 (k : Int))) none none).run Try.prog W = .ok (.slice p2 (n - k) (c - k)) W) ∧ (∀ b off, p = some ⟨b, off, none⟩ → k < n → p2 = some ⟨b, off + k, none⟩) := by
    refine ⟨if c = k then p else Option.map (fun x => x.add (k * 1)) p, fun W => by
      rw [run_slice_l W _ _ _ _ slI .i64 (k : Int) (by omega) (by omega), size1]
      simp only [Result.andThen_ok, sliced, Int.toNat_natCast], fun b off hp hkn => ?_⟩
    subst hp
    have hck : ¬ c = k := by omega
    simp [Addr.add, hck]
  obtain ⟨p2, e1, e2⟩ := e
  refine ⟨p2, c - k, fun W => by rw [run_sliceAt_slice W _ _ _ _ _ slI]; exact e1 W, e1, fun w' hw => ?_⟩
  by_cases h1 : k < n
  · obtain ⟨b, off, hp, _⟩ := h.2.2.2 (by omega)
    rw [e2 b off hp h1]
    subst hp
    exact ints_tail (h.below hw) k (c - k) (by omega) (by omega) (by omega)
  · exact ints_none _ _ _ _ (by omega) (List.drop_eq_nil_of_le (by omega))
end Go.Proofs.Yteggajhpjdidcaa.App
