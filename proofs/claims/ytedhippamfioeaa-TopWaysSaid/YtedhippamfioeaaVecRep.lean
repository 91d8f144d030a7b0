/- slices.Repeat at a list of one number. No statement is proved here. -/
import Derived.Test.YtedhippamfioeaaOwnI
import Derived.Test.YtedhippamfioeaaArr
import Derived.BigQuiet
import Derived.RegionTactic
import Derived.Laws.CopyRow
namespace Go.Proofs.Ytedhippamfioeaa.App
open Go.ChangeShapes Go.WideShapes Go.ChangeAt Go.RowKit Go.Proofs.Ytedhippamfioeaa.Kit Go.Proofs.Ytedhippamfioeaa.Err
set_option linter.unusedVariables false
set_option maxRecDepth 20000
set_option maxHeartbeats 1000000

theorem mul64_any (n : Nat) (h1 : 1 ≤ n) (h8 : n ≤ 8) (w : World) :
    Calls Try.prog 44 #[.int .u64 1, .int .u64 (n : Int)] w fun e w' => e = .returned (.tuple #[.int .u64 0, .int .u64 (n : Int)]) ∧ w' = w := by
  have hn : n = 1 ∨ n = 2 ∨ n = 3 ∨ n = 4 ∨ n = 5 ∨ n = 6 ∨ n = 7 ∨ n = 8 := by omega
  rcases hn with rfl | rfl | rfl | rfl | rfl | rfl | rfl | rfl
  all_goals
    go_enter Try.func44, Try.ntmps44
    go_wp2_with fail
    go_ret2
    exact ⟨by kernel_rfl, rfl⟩
theorem mul_any (n : Nat) (h1 : 1 ≤ n) (h8 : n ≤ 8) (w : World) :
    Calls Try.prog 42 #[.int .u64 1, .int .u64 (n : Int)] w fun e w' => e = .returned (.tuple #[.int .u64 0, .int .u64 (n : Int)]) ∧ w' = w := by
  have M := Lib.hid (mul64_any n h1 h8 w)
  go_enter Try.func42, Try.ntmps42
  go_wp2_with fail
  refine M.out.mono ?_; rintro e w1 ⟨rfl, rfl⟩
  go_wp2_with fail
  go_ret2
  exact ⟨rfl, rfl⟩
/-- A slice that the call makes fills its block. -/
theorem blk_of_row {w : World} {base g n : Nat} {e : TypeId} {vs : List Value} (h : w.ownsRow base e 1 (.slice (some ⟨g, 0, none⟩) n n) n vs) : Blk e w g vs := by
  obtain ⟨hl, ⟨e1, _⟩ | ⟨g', cap, cur, e1, hb, hh, hnc, hcm, hcs, ht⟩⟩ := h
  · cases e1
  · injection e1 with e1 e2 e3
    injection e1 with e1
    injection e1 with e1
    subst e1
    subst e3
    unfold Blk
    rw [hh]
    have : cur.toList = vs := by
      rw [← ht, List.take_of_length_le (by rw [Array.length_toList, hcs]; exact Nat.le_refl _)]
    rw [← this, Array.toArray_toList]
theorem made_blk (w : World) (n : Nat) (hn : n ≤ 1000) : ∃ w', (Instr.makeSlice 24 (.int .i64 (n : Int)) (.int .i64 (n : Int))).run Try.prog w = .ok (.slice (some ⟨w.heap.size, 0, none⟩) n n) w' ∧ Blk 3 w' w.heap.size (ar n fun _ => .int .i64 0) ∧ w.grownBy w' none := by
  obtain ⟨w', h1, h2, h3⟩ := made_ints w n hn
  refine ⟨w', h1, ?_, h3⟩
  have h4 := h2.1
  rw [List.length_replicate] at h4
  have h5 := blk_of_row h4
  have e : (ar n fun _ => Value.int .i64 0) = (List.replicate n (0 : Int)).map (Value.int .i64) := by
    unfold ar
    rw [List.map_replicate, List.map_const', List.length_range]
  rw [e]
  exact h5
/-- One number, k times at the beginning. -/
def half (x : Int) (k : Nat) : Nat → Value := fun j => .int .i64 (if j < k then x else 0)
theorem copied {w : World} {g n k : Nat} {x : Int} (h : Blk 3 w g (ar n (half x k))) (ty dl dc sl sc m : Nat) (a : Addr) (hk : k + m ≤ n) (hm : Nat.min sl dl = m) (hs : ∀ j, j < m → w.cell? (a.add j) = some (.int .i64 x)) :
    ∃ w', (Builtin.copy_ #[24, 24] ty #[.slice (some ⟨g, k, none⟩) dl dc, .slice (some a) sl sc]).run Try.prog w = .ok (.int .i64 (m : Int)) w' ∧ Blk 3 w' g (ar n (half x (k + m))) ∧ w.grownBy w' (some g) := by
  have hr := run_copy_row (P := Try.prog) w 24 24 ty 3 g k dl dc a sl sc (ar n (half x k)).toArray 3 (List.replicate m (.int .i64 x))
    Try.underlying24 (by kernel_rfl) h (by rw [List.length_replicate, hm]) (fun j v hj => by
      by_cases hjm : j < m
      · rw [List.getElem?_replicate, if_pos hjm] at hj
        rw [← hj]; exact hs j hjm
      · rw [List.getElem?_replicate, if_neg hjm] at hj; cases hj) (by simp [ar]; exact hk) (fun v hv => by rw [(List.mem_replicate.1 hv).2]; rfl)
  rw [List.length_replicate] at hr
  refine ⟨_, hr, ?_, rfl, rfl, rfl, by simp [World.setRow], fun j hj hne => setRow_other w g j _ (fun e => hne (by rw [e]))⟩
  unfold Blk at h ⊢
  rw [setRow_heap w g _ _ _ _ h]
  congr 3
  refine List.ext_getElem? fun j => ?_
  have el : (ar n (half x k)).length = n := by simp [ar]
  show (List.take k (ar n (half x k)) ++ List.replicate m (Value.int .i64 x) ++ List.drop (k + m) (ar n (half x k)))[j]? = _
  by_cases h1 : j < k
  · rw [List.append_assoc, List.getElem?_append_left (by rw [List.length_take, el]; omega), List.getElem?_take, if_pos h1, ar_get _ (by omega), ar_get _ (by omega)]
    unfold half
    rw [if_pos h1, if_pos (by omega)]
  · by_cases h2 : j < k + m
    · rw [List.getElem?_append_left (by rw [List.length_append, List.length_take, List.length_replicate, el]; omega), List.getElem?_append_right (by rw [List.length_take, el]; omega), List.length_take, el, List.getElem?_replicate, if_pos (by omega), ar_get _ (by omega)]
      unfold half
      rw [if_pos h2]
    · rw [List.getElem?_append_right (by rw [List.length_append, List.length_take, List.length_replicate, el]; omega), List.length_append, List.length_take, List.length_replicate, el, List.getElem?_drop, show k + m + (j - (min k n + m)) = j by omega]
      by_cases h3 : j < n
      · rw [ar_get _ h3, ar_get _ h3]
        unfold half
        rw [if_neg h1, if_neg h2]
      · rw [List.getElem?_eq_none (by rw [el]; omega), List.getElem?_eq_none (by simp [ar]; omega)]

theorem repeat_any (b n : Nat) (x : Int) (h1 : 1 ≤ n) (h8 : n ≤ 8) (w : World) (hb : b < w.heap.size) (hc : w.cell? ⟨b, 0, none⟩ = some (.int .i64 x)) :
    Calls Try.prog 40 #[.slice (some ⟨b, 0, none⟩) 1 1, .int .i64 (n : Int)] w fun e w' => e = .returned (.slice (some ⟨w.heap.size, 0, none⟩) n n) ∧ Blk 3 w' w.heap.size (ar n fun _ => .int .i64 x) ∧ Below w.heap.size w w' := by
  have M := Lib.hid (mul_any n h1 h8 w)
  have t0 : decide ((n : Int) < 0) = false := decide_eq_false (by omega)
  have t1 : decide ((n : Int) > 9223372036854775807) = false := decide_eq_false (by omega)
  have e1 : IntKind.u64.wrap (n : Int) = (n : Int) := by rw [IntKind.wrap_u64]; omega
  have e2 : IntKind.i64.wrap (n : Int) = (n : Int) := wrap_in (n := (n : Int)) ⟨by omega, by omega⟩
  obtain ⟨w2, hmk, hb2, hg2⟩ := made_blk w n (by omega)
  obtain ⟨w3, hcp, hb3, hg3⟩ := copied (k := 0) (x := x) (w := w2) (g := w.heap.size) (n := n) (by
    have : (ar n (half x 0)) = ar n fun _ => Value.int .i64 0 := by unfold half; simp
    rw [this]; exact hb2) 3 n n 1 1 1 ⟨b, 0, none⟩ (by omega) (Nat.min_eq_left h1) (fun j hj => by
      obtain rfl : j = 0 := by omega
      rw [add_plain, Nat.zero_add]
      rw [← hc]
      exact World.cell?_of_block (w := w) (a := ⟨b, 0, none⟩) (hg2.block b hb (by simp)))
  have HB3 := Lib.hid hb3
  have HG := Lib.hid (show Below w.heap.size w w3 from (Below.refl w.heap.size w).trans ⟨hg3.os.trans hg2.os, hg3.tape.trans hg2.tape, hg3.output.trans hg2.output, Nat.le_trans hg2.size hg3.size, fun j hj => (hg3.block j (by have := hg2.size; omega) (by simp; omega)).trans (hg2.block j hj (by simp))⟩)
  clear hb2 hg2 hb3 hg3
  obtain ⟨z, hz⟩ : ∃ z, w.heap.size = z := ⟨_, rfl⟩
  have HZ := Lib.hid hz
  rw [hz] at hmk hcp HB3 ⊢
  clear hz
  go_enter Try.func40, Try.ntmps40
  go_wp2_with fail
  refine M.out.mono ?_; rintro e w1 ⟨rfl, rfl⟩
  go_wp2_with fail
  clear hcp hmk M e1 t0 t1 hc hb
  go_loopw [8] (fun kv wr => ∃ k : Nat, 1 ≤ k ∧ k ≤ n ∧ kv = .int .i64 k ∧ Hid (Blk 3 wr z (ar n (half x k))) ∧ Hid (Below w1.heap.size w1 wr)) (fun k _ => n - (intOf k).toNat)
  case atStart => exact ⟨1, Nat.le_refl _, h1, rfl, Lib.hid (by have := HB3.out; rwa [Nat.zero_add] at this), HG⟩
  case round =>
    obtain ⟨k, hk1, hkn, rfl, HB, HW⟩ := hrel
    clear HB3 HG
    by_cases hlt : k < n
    · have t0 : decide ((k : Int) < (n : Int)) = true := decide_eq_true (by omega)
      obtain ⟨m, hm⟩ : ∃ m, Nat.min k (n - k) = m := ⟨_, rfl⟩
      have hm' : min k (n - k) = m := hm
      obtain ⟨w4, hcp, hb4, hg4⟩ := copied (k := k) (x := x) (w := wr.drew) (g := z) (n := n) HB.out 3 (n - k) (n - k) k n m ⟨z, 0, none⟩ (by omega) hm (fun j hj => by
        rw [add_plain, Nat.zero_add]
        have := HB.out.cell j _ (ar_get _ (show j < n by omega))
        unfold half at this
        rw [if_pos (by omega)] at this
        exact this)
      have HB4 := Lib.hid hb4
      have HW4 := Lib.hid (show Below w1.heap.size w1 w4 from gbelow (below_drewN HW.out 1) (Nat.le_refl _) hg4 (by rw [HZ.out]; exact Nat.le_refl _))
      have hkm : k + m ≤ n ∧ 1 ≤ m := by omega
      have e3 : IntKind.i64.wrap ((k : Int) + (m : Int)) = ((k + m : Nat) : Int) := by rw [wrap_in (n := (k : Int) + (m : Int)) ⟨by omega, by omega⟩]; omega
      clear hb4 hg4 hm hm' HB HW
      go_wp2_with fail
      go_region
      go_wp2_with fail
      go_roundw
      case rel => exact ⟨k + m, by omega, hkm.1, by first | rfl | go_num, HB4, HW4⟩
      case measure => simp [intOf]; omega
    · obtain rfl : k = n := by omega
      have t0 : decide ((k : Int) < (k : Int)) = false := decide_eq_false (by omega)
      have HF := Lib.hid (show Blk 3 wr z (ar k fun _ => .int .i64 x) from by
        have := HB.out
        rwa [ar_congr (g := fun _ => .int .i64 x) (fun j hj => by unfold half; rw [if_pos hj])] at this)
      go_wp2_with fail
      go_ret
      exact ⟨rfl, HF.out, by have := HW.out; rwa [HZ.out] at this⟩
end Go.Proofs.Ytedhippamfioeaa.App
