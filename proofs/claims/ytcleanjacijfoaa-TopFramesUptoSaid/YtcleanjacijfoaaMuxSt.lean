/- Package mux: the ends of streams, as they lie in memory. No statement is proved here. -/
import Derived.Test.YtcleanjacijfoaaMuxCode
import Derived.Test.YtcleanjacijfoaaBlk
namespace Go.Proofs.Ytcleanjacijfoaa.Mux
open Go.ChangeShapes Go.WideShapes Go.ChangeAt Go.RowKit Go.Proofs.Ytcleanjacijfoaa.Kit Go.Proofs.Ytcleanjacijfoaa.App Go.Proofs.Ytcleanjacijfoaa.Cells Go.Proofs.Ytcleanjacijfoaa.Err
set_option linter.unusedVariables false
set_option maxRecDepth 20000

/-- What lies at a place of the ends: four streams, each 200 pairs of a truth and a byte, and how far it was read. -/
def at_ (d r : Nat → Nat) (k : Nat) : Value :=
  if k % 401 = 400 then .int .i64 (r (k / 401) : Nat)
  else if k % 401 % 2 = 0 then .bool (decide (d (200 * (k / 401) + k % 401 / 2) ≠ 0))
  else .int .u8 ((d (200 * (k / 401) + k % 401 / 2) - 1 : Nat) : Int)
def evs (d r : Nat → Nat) : List Value := (List.range 1604).map (at_ d r)
theorem evs_get (d r : Nat → Nat) {k : Nat} (hk : k < 1604) : (evs d r)[k]? = some (at_ d r k) := by
  unfold evs
  rw [List.getElem?_map, List.getElem?_range hk]
  rfl
theorem evs_len (d r : Nat → Nat) : (evs d r).length = 1604 := by unfold evs; rw [List.length_map, List.length_range]
theorem at_known (d r : Nat → Nat) {n j : Nat} (hj : j < 200) : at_ d r (n * 401 + j * 2) = .bool (decide (d (200 * n + j) ≠ 0)) := by
  unfold at_
  rw [show (n * 401 + j * 2) % 401 = j * 2 by omega, show (n * 401 + j * 2) / 401 = n by omega, if_neg (by omega), if_pos (by omega), show j * 2 / 2 = j by omega]
theorem at_value (d r : Nat → Nat) {n j : Nat} (hj : j < 200) : at_ d r (n * 401 + j * 2 + 1) = .int .u8 ((d (200 * n + j) - 1 : Nat) : Int) := by
  unfold at_
  rw [show (n * 401 + j * 2 + 1) % 401 = j * 2 + 1 by omega, show (n * 401 + j * 2 + 1) / 401 = n by omega, if_neg (by omega), if_neg (by omega), show (j * 2 + 1) / 2 = j by omega]
theorem at_read (d r : Nat → Nat) (n : Nat) : at_ d r (n * 401 + 400) = .int .i64 (r n : Nat) := by
  unfold at_
  rw [show (n * 401 + 400) % 401 = 400 by omega, show (n * 401 + 400) / 401 = n by omega, if_pos rfl]
theorem evs_put (d r : Nat → Nat) {n j : Nat} (hn : n < 4) (hj : j < 200) (v : Nat) : ((evs d r).set (n * 401 + j * 2) (.bool true)).set (n * 401 + j * 2 + 1) (.int .u8 (v : Int)) = evs (fun k => if k = 200 * n + j then v + 1 else d k) r := by
  refine List.ext_getElem? fun k => ?_
  by_cases hk : k < 1604
  · rw [evs_get _ r hk]
    by_cases e2 : n * 401 + j * 2 + 1 = k
    · subst e2
      rw [List.getElem?_set_self (by rw [List.length_set, evs_len]; exact hk), at_value _ _ hj, if_pos rfl]
      rfl
    · rw [List.getElem?_set_ne e2]
      by_cases e1 : n * 401 + j * 2 = k
      · subst e1
        rw [List.getElem?_set_self (by rw [evs_len]; exact hk), at_known _ _ hj, if_pos rfl]
        simp
      · rw [List.getElem?_set_ne e1, evs_get d r hk]
        unfold at_
        by_cases h : k % 401 = 400
        · simp only [if_pos h]
        · have hne : 200 * (k / 401) + k % 401 / 2 ≠ 200 * n + j := fun e => by omega
          simp only [if_neg h, if_neg hne]
  · rw [List.getElem?_eq_none (by rw [List.length_set, List.length_set, evs_len]; omega), List.getElem?_eq_none (by rw [evs_len]; omega)]
theorem evs_read (d r : Nat → Nat) {n : Nat} (hn : n < 4) (v : Nat) : (evs d r).set (n * 401 + 400) (.int .i64 (v : Int)) = evs d (fun k => if k = n then v else r k) := by
  refine List.ext_getElem? fun k => ?_
  by_cases hk : k < 1604
  · rw [evs_get _ _ hk]
    by_cases e2 : n * 401 + 400 = k
    · subst e2
      rw [List.getElem?_set_self (by rw [evs_len]; exact hk), at_read, if_pos rfl]
    · rw [List.getElem?_set_ne e2, evs_get d r hk]
      unfold at_
      by_cases h : k % 401 = 400
      · have hne : k / 401 ≠ n := fun e => by omega
        simp only [if_pos h, if_neg hne]
      · simp only [if_neg h]
  · rw [List.getElem?_eq_none (by rw [List.length_set, evs_len]; omega), List.getElem?_eq_none (by rw [evs_len]; omega)]

/-- The ends lie in block g: d is what came, r how far it was read. -/
def Ends (w : World) (g : Nat) (d r : Nat → Nat) : Prop := Blk 61 w g (evs d r)
variable {w w' : World} {g : Nat} {d r : Nat → Nat}
theorem Ends.lt (h : Ends w g d r) : g < w.heap.size := Blk.lt h
theorem Ends.more {row : Option Nat} (h : Ends w g d r) (hg : w.grownBy w' row) (hne : some g ≠ row) : Ends w' g d r := Blk.more h hg hne
theorem Ends.below (h : Ends w g d r) (hb : Below w.heap.size w w') : Ends w' g d r := Blk.below h hb
theorem Ends.alloc (h : Ends w g d r) (o : Obj) : Ends (w.alloc o) g d r := Blk.alloc h o
theorem Ends.drewN (h : Ends w g d r) (n : Nat) : Ends (w.drewN n) g d r := h
theorem Ends.drew (h : Ends w g d r) : Ends w.drew g d r := h
theorem Ends.known (h : Ends w g d r) {n j : Nat} (hn : n < 4) (hj : j < 200) : w.cell? ⟨g, n * 401 + j * 2, none⟩ = some (.bool (decide (d (200 * n + j) ≠ 0))) :=
  Blk.cell h _ _ (by rw [evs_get d r (by omega), at_known d r hj])
theorem Ends.value (h : Ends w g d r) {n j : Nat} (hn : n < 4) (hj : j < 200) : w.cell? ⟨g, n * 401 + j * 2 + 1, none⟩ = some (.int .u8 ((d (200 * n + j) - 1 : Nat) : Int)) :=
  Blk.cell h _ _ (by rw [evs_get d r (by omega), at_value d r hj])
theorem Ends.rd (h : Ends w g d r) {n : Nat} (hn : n < 4) : w.cell? ⟨g, n * 401 + 400, none⟩ = some (.int .i64 (r n : Nat)) :=
  Blk.cell h _ _ (by rw [evs_get d r (by omega), at_read d r n])
theorem Ends.fz (h : Ends w g d r) (k : Nat) : w.frozen? ⟨g, k, none⟩ = false := Blk.fz h k
theorem Ends.put (h : Ends w g d r) {n j : Nat} (hn : n < 4) (hj : j < 200) (v : Nat) : Ends ((w.setCell ⟨g, n * 401 + j * 2, none⟩ (.bool true)).setCell ⟨g, n * 401 + j * 2 + 1, none⟩ (.int .u8 (v : Int))) g (fun k => if k = 200 * n + j then v + 1 else d k) r := by
  have h2 := Blk.set (Blk.set h (n * 401 + j * 2) (.bool true)) (n * 401 + j * 2 + 1) (.int .u8 (v : Int))
  rw [evs_put d r hn hj v] at h2
  exact h2
theorem Ends.step (h : Ends w g d r) {n : Nat} (hn : n < 4) (v : Nat) : Ends (w.setCell ⟨g, n * 401 + 400, none⟩ (.int .i64 (v : Int))) g d (fun k => if k = n then v else r k) := by
  have h2 := Blk.set h (n * 401 + 400) (.int .i64 (v : Int))
  rw [evs_read d r hn v] at h2
  exact h2

theorem arr200 : Try.prog.underlying 56 = some (.array (Try.prog.arrayLen 56) (Try.prog.elem 56)) := by kernel_rfl
theorem len200 : Try.prog.arrayLen 56 = 200 := by kernel_rfl
theorem size2 (W : World) : (sizeOf (Try.prog.elem 56)).run Try.prog W = .ok 2 W := by
  have h : (Try.prog.info? (Try.prog.elem 56)).map (fun i => i.size) = some 2 := by kernel_rfl
  obtain ⟨i, hi, hz⟩ := Option.map_eq_some_iff.1 h
  simp only [sizeOf, typeInfo, Sem.run_bind, run_program, Result.andThen_ok, hi, hz, Sem.run_pure]
/-- A part of a stream's places, as a slice. -/
theorem slice_lh (g o an m : Nat) (h : an + m ≤ 200) : ∃ p c, (∀ W, (Instr.sliceAt 56 (.pointer (some ⟨g, o, none⟩)) (some (.int .i64 (an : Int))) (some (.int .i64 ((an : Int) + (m : Int)))) none).run Try.prog W = .ok (.slice p m c) W) ∧ (0 < m → p = some ⟨g, o + an * 2, none⟩) := by
  refine ⟨some (if 200 = an then ⟨g, o, none⟩ else ⟨g, o + an * 2, none⟩), 200 - an, fun W => ?_, fun hm => by rw [if_neg (by omega)]⟩
  rw [run_sliceAt_array_lh W _ _ arr200 .i64 .i64 (an : Int) ((an : Int) + (m : Int)) (by omega) (by omega) (by rw [len200]; omega), size2]
  simp only [Result.andThen_ok, slicedAt, len200, Int.toNat_natCast]
  rw [show ((an : Int) + (m : Int)).toNat = an + m by omega, show an + m - an = m by omega]
  congr 4
  simp [Addr.add]
  try omega
theorem slice_l (g o n : Nat) (h : n ≤ 200) : ∃ p c, (∀ W, (Instr.sliceAt 56 (.pointer (some ⟨g, o, none⟩)) (some (.int .i64 (n : Int))) none none).run Try.prog W = .ok (.slice p (200 - n) c) W) ∧ (0 < 200 - n → p = some ⟨g, o + n * 2, none⟩) := by
  refine ⟨some (if 200 = n then ⟨g, o, none⟩ else ⟨g, o + n * 2, none⟩), 200 - n, fun W => ?_, fun hm => by rw [if_neg (by omega)]⟩
  rw [run_sliceAt_array_l W _ _ arr200 .i64 (n : Int) (by omega) (by rw [len200]; omega), size2]
  simp only [Result.andThen_ok, slicedAt, len200, Int.toNat_natCast]
  congr 4
  simp [Addr.add]
  try omega
end Go.Proofs.Ytcleanjacijfoaa.Mux
