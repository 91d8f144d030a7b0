/- Slices of fragments, cut: their tails and heads. No statement is proved here. -/
import Derived.Test.YtaflpdagehocfaaFragLaw
namespace Go.Proofs.Ytaflpdagehocfaa.Part
open Go.ChangeShapes Go.WideShapes Go.ChangeAt Go.RowKit Go.Proofs.Ytaflpdagehocfaa.Kit Go.Proofs.Ytaflpdagehocfaa.App Go.Proofs.Ytaflpdagehocfaa.Cells
set_option linter.unusedVariables false
set_option maxRecDepth 20000

theorem sl_ty : Try.prog.underlying 24 = some (.slice (Try.prog.elem 24)) := by kernel_rfl
theorem size3 (W : World) : (sizeOf (Try.prog.elem 24)).run Try.prog W = .ok 3 W := by
  have h : (Try.prog.info? (Try.prog.elem 24)).map (fun i => i.size) = some 3 := by kernel_rfl
  obtain ⟨i, hi, hz⟩ := Option.map_eq_some_iff.1 h
  simp only [sizeOf, typeInfo, Sem.run_bind, run_program, Result.andThen_ok, hi, hz, Sem.run_pure]
/-- The tail of a slice of fragments: what the walk wants, and how it reads. -/
theorem tail_of {w : World} {p : Option Addr} {c n : Nat} {L : List Prt} (h : CI lay w p c L) (hn : n = L.length) (hL : 0 < L.length) (k : Nat) (hk : k ≤ n) (z : Int) (hz : z = (k : Int)) (r : Nat) (hr : n - k = r) : ∃ p2 c2, (∀ W, (Instr.sliceAt 24 (.slice p n c) (some (.int .i64 z)) none none).run Try.prog W = .ok (.slice p2 r c2) W) ∧
    (∀ W, (Instr.slice 24 (.slice p n c) (some (.int .i64 z)) none none).run Try.prog W = .ok (.slice p2 r c2) W) ∧ ∀ w', Below w.heap.size w w' → CI lay w' p2 c2 (L.drop k) := by
  subst hz
  subst hr
  obtain ⟨b, off, rfl, hb, _⟩ := h.2.2 hL
  have hc := h.1
  have hm := h.2.1
  have e : ∀ W, (Instr.slice 24 (.slice (some ⟨b, off, none⟩) n c) (some (.int .i64 (k : Int))) none none).run Try.prog W = .ok (.slice (if c = k then some ⟨b, off, none⟩ else some ⟨b, off + k * 3, none⟩) (n - k) (c - k)) W := fun W => by
    rw [run_slice_l W _ _ _ _ sl_ty .i64 (k : Int) (by omega) (by omega), size3]
    simp only [Result.andThen_ok, sliced, Int.toNat_natCast]
    congr 3
    simp [Addr.add]
  refine ⟨if c = k then some ⟨b, off, none⟩ else some ⟨b, off + k * 3, none⟩, c - k, fun W => by rw [run_sliceAt_slice W _ _ _ _ _ sl_ty]; exact e W, e, fun w' hw => ?_⟩
  by_cases h1 : k < n
  · rw [if_neg (by omega)]
    have := (CI.sub (h.below hw) k (L.length - k) (c - k) (by omega) (by omega) (by omega))
    rw [List.take_of_length_le (by rw [List.length_drop]; omega)] at this
    exact this
  · rw [List.drop_eq_nil_of_le (by omega)]
    exact CI.empty _ _ _ _ (by omega)
/-- The head. -/
theorem head_of {w : World} {p : Option Addr} {c n : Nat} {L : List Prt} (h : CI lay w p c L) (hn : n = L.length) (hL : 0 < L.length) (k : Nat) (hk : k ≤ n) : (∀ W, (Instr.sliceAt 24 (.slice p n c) none (some (.int .i64 (k : Int))) none).run Try.prog W = .ok (.slice p k c) W) ∧
    (∀ W, (Instr.slice 24 (.slice p n c) none (some (.int .i64 (k : Int))) none).run Try.prog W = .ok (.slice p k c) W) ∧ ∀ w', Below w.heap.size w w' → CI lay w' p c (L.take k) := by
  obtain ⟨b, off, rfl, hb, _⟩ := h.2.2 hL
  have hc := h.1
  have hm := h.2.1
  have e : ∀ W, (Instr.slice 24 (.slice (some ⟨b, off, none⟩) n c) none (some (.int .i64 (k : Int))) none).run Try.prog W = .ok (.slice (some ⟨b, off, none⟩) k c) W := fun W => by
    rw [run_slice_h W _ _ _ _ sl_ty .i64 (k : Int) (by omega) (by omega), size3]
    simp only [Result.andThen_ok, sliced, Int.toNat_natCast]
    simp [Addr.add]
  refine ⟨fun W => by rw [run_sliceAt_slice W _ _ _ _ _ sl_ty]; exact e W, e, fun w' hw => ?_⟩
  have := (CI.sub (h.below hw) 0 k c (by omega) (by omega) hm)
  rw [Nat.zero_mul, Nat.add_zero, List.drop_zero] at this
  exact this
theorem fits_parts (s : ByteArray) (n : Nat) (hn : 0 < n) (hs : s.size ≤ 200) (x : Prt) (hx : x ∈ parts s n) : Fits x ∧ right x = true := by
  have h := of_parts s n hn hs x hx
  have hr := (right_iff x).1 h.1
  have hb : x.bs.length = x.dat.size := rfl
  refine ⟨⟨?_, by unfold maxLen; omega⟩, h.1⟩
  simp [Lit.wf, IntKind.min, IntKind.max, IntKind.signed, IntKind.bits]; omega
end Go.Proofs.Ytaflpdagehocfaa.Part
