/- The contract of decode of package line. No statement is proved here. -/
import Derived.Test.YtooicigocljomaaDoorLine3
import Derived.ChangeKeysEq
namespace Go.Proofs.YtooicigocljomaaDoor.Line
open Go.ChangeShapes Go.WideShapes Go.ChangeAt Go.RowKit
open Go.Proofs.YtooicigocljomaaDoor.Kit Go.Proofs.YtooicigocljomaaDoor.App Go.Proofs.YtooicigocljomaaDoor.LineMath
set_option linter.unusedVariables false
set_option maxRecDepth 20000

def arr5 (c : List Int) : Value := .agg (c.map (Value.int .i64)).toArray

theorem eq5 (a0 a1 a2 a3 a4 b0 b1 b2 b3 b4 : Int) (W : World) :
    (Op.equalIn 10000 43 (.agg #[.int .i64 a0, .int .i64 a1, .int .i64 a2, .int .i64 a3, .int .i64 a4]) (.agg #[.int .i64 b0, .int .i64 b1, .int .i64 b2, .int .i64 b3, .int .i64 b4])).run Tryd.prog W
      = .ok ([a0, a1, a2, a3, a4] == [b0, b1, b2, b3, b4]) W := by
  obtain ⟨i, hi, hz, hs, hby⟩ := info_parts info_int
  rw [run_equalIn_array W 9999 (e := 3) (n := 5) _ _ Tryd.underlying43 hi]
  have hc : Tryd.prog.cellsOf 3 = 1 := by kernel_rfl
  have pt : ∀ (xs : Array Value) (j : Nat) (v : Value) (W : World), xs[j]? = some v → (part 3 xs (j * 1)).run Tryd.prog W = .ok v W := fun xs j v W h => by
    have h2 : j * 1 = j := Nat.mul_one j
    rw [h2]
    simp only [part, Sem.run_bind, isAgg, run_underlying Tryd.underlying3, Result.andThen_ok, Sem.run_pure, Bool.false_eq_true, if_false, h]
  have pe : ∀ (a b : Int) (W : World), (Op.equalIn 9999 3 (.int .i64 a) (.int .i64 b)).run Tryd.prog W = .ok (a == b) W := fun a b W => run_equalIn_int W 9998 _ .i64 .i64 a b Tryd.underlying3
  rw [hc]
  have r5 : List.range 5 = [0, 1, 2, 3, 4] := rfl
  rw [r5]
  have pa := fun j v => pt #[.int .i64 a0, .int .i64 a1, .int .i64 a2, .int .i64 a3, .int .i64 a4] j v
  have pb := fun j v => pt #[.int .i64 b0, .int .i64 b1, .int .i64 b2, .int .i64 b3, .int .i64 b4] j v
  have pa0 := fun W => pa 0 (.int .i64 a0) W rfl
  have pa1 := fun W => pa 1 (.int .i64 a1) W rfl
  have pa2 := fun W => pa 2 (.int .i64 a2) W rfl
  have pa3 := fun W => pa 3 (.int .i64 a3) W rfl
  have pa4 := fun W => pa 4 (.int .i64 a4) W rfl
  have pb0 := fun W => pb 0 (.int .i64 b0) W rfl
  have pb1 := fun W => pb 1 (.int .i64 b1) W rfl
  have pb2 := fun W => pb 2 (.int .i64 b2) W rfl
  have pb3 := fun W => pb 3 (.int .i64 b3) W rfl
  have pb4 := fun W => pb 4 (.int .i64 b4) W rfl
  clear pa pb pt hc
  simp only [Op.eqItems, Sem.run_bind, pa0, pa1, pa2, pa3, pa4, pb0, pb1, pb2, pb3, pb4, pe, Result.andThen_ok, Sem.run_ite, Sem.run_pure]
  cases h0 : (a0 == b0) <;> cases h1 : (a1 == b1) <;> cases h2 : (a2 == b2) <;> cases h3 : (a3 == b3) <;> cases h4 : (a4 == b4) <;> simp [List.cons_beq_cons, h0, h1, h2, h3, h4]

theorem index_code (n : Nat) (hn : n < 16) (W : World) : (Instr.index 44 (.agg (tab.map (Value.int .i64)).toArray) (.int .i64 n)).run Tryd.prog W = .ok (.agg #[.int .i64 (at5 n 0), .int .i64 (at5 n 1), .int .i64 (at5 n 2), .int .i64 (at5 n 3), .int .i64 (at5 n 4)]) W := by
  have h : n = 0 ∨ n = 1 ∨ n = 2 ∨ n = 3 ∨ n = 4 ∨ n = 5 ∨ n = 6 ∨ n = 7 ∨ n = 8 ∨ n = 9 ∨ n = 10 ∨ n = 11 ∨ n = 12 ∨ n = 13 ∨ n = 14 ∨ n = 15 := by omega
  rcases h with rfl | rfl | rfl | rfl | rfl | rfl | rfl | rfl | rfl | rfl | rfl | rfl | rfl | rfl | rfl | rfl <;> (show _ = _; kernel_rfl)

set_option maxHeartbeats 1000000 in
theorem decode_any (c0 c1 c2 c3 c4 : Int) (w : World) (hC : Codes w) (R : Option Nat) (hR0 : R = num [c0, c1, c2, c3, c4]) :
    Calls Tryd.prog 31 #[.agg #[.int .i64 c0, .int .i64 c1, .int .i64 c2, .int .i64 c3, .int .i64 c4]] w fun e w' => e = .returned (.tuple #[.int .i64 (R.getD 0 : Nat), .bool R.isSome]) ∧ Below w.heap.size w w' := by
  have hR := Lib.hid hR0
  clear hR0
  have hlt := hC.lt
  obtain ⟨t, hrow⟩ := hC
  have hix := index_code
  have hsz : (Tryd.prog.info? 44).map (·.size) = some (tab.map (Value.int .i64)).toArray.size := by kernel_rfl
  generalize (tab.map (Value.int .i64)).toArray = T at hrow hix hsz
  have HX := Lib.hid hix
  have HZ := Lib.hid hsz
  clear hix hsz
  go_enter Tryd.func31, Tryd.ntmps31
  go_wp2_with fail
  refine wp_load_row 44 _ rfl 0 rfl t T _ _ (by rw [Below.heap_alloc w _ _ hlt]; exact hrow) Tryd.underlying44 rfl HZ.out ?_
  go_wp2_with fail
  go_loopw [7] (fun i wr => ∃ (k : Nat), k ≤ 16 ∧ i = .int .i64 k ∧ Hid (∀ j : Nat, j < k → code j ≠ [c0, c1, c2, c3, c4]) ∧ Below w.heap.size w wr ∧ w.heap.size < wr.heap.size ∧
    wr.heap[w.heap.size]? = some (.cells #[.int .i64 c0, .int .i64 c1, .int .i64 c2, .int .i64 c3, .int .i64 c4] 43)) (fun i _ => 16 - (intOf i).toNat)
  case atStart => exact ⟨0, by omega, rfl, fun j hj => absurd hj (Nat.not_lt_zero _), balloc (brefl w) _, by simp, alloc_new w _⟩
  case round =>
    obtain ⟨k, hk, rfl, H, hB, hsz, hbox⟩ := hrel
    by_cases hlt2 : k < 16
    · have hix := HX.out k hlt2
      have g0 := cell_of_row wr _ 0 _ _ _ hbox
      have g1 := cell_of_row wr _ 1 _ _ _ hbox
      have g2 := cell_of_row wr _ 2 _ _ _ hbox
      have g3 := cell_of_row wr _ 3 _ _ _ hbox
      have g4 := cell_of_row wr _ 4 _ _ _ hbox
      have hcode : code k = [at5 k 0, at5 k 1, at5 k 2, at5 k 3, at5 k 4] := rfl
      have hnum : code k = [c0, c1, c2, c3, c4] → R = some k := fun e => by rw [hR.out]; exact num_at hlt2 e
      rw [hcode] at hnum
      have hne : code k ≠ [c0, c1, c2, c3, c4] → ∀ j : Nat, j < k + 1 → code j ≠ [c0, c1, c2, c3, c4] := fun e j hj => by
        by_cases ej : j = k
        · rw [ej]; exact e
        · exact H.out j (by omega)
      rw [hcode] at hne
      clear hcode
      generalize at5 k 0 = a0 at *
      generalize at5 k 1 = a1 at *
      generalize at5 k 2 = a2 at *
      generalize at5 k 3 = a3 at *
      generalize at5 k 4 = a4 at *
      have E5 := eq5 c0 c1 c2 c3 c4 a0 a1 a2 a3 a4
      have HN := Lib.hid hnum
      have HE := Lib.hid hne
      clear hnum hne
      by_cases he : [c0, c1, c2, c3, c4] = [a0, a1, a2, a3, a4]
      · have t1 : ([c0, c1, c2, c3, c4] == [a0, a1, a2, a3, a4]) = true := by rw [he]; simp
        rw [t1] at E5
        have he2 := Lib.hid he.symm
        clear t1 he
        go_wp2_with fail
        have hsome := HN.out he2.out
        clear hR
        subst hsome
        go_ret2
        refine ⟨rfl, ?_⟩
        exact balloc hB _
      · have t1 : ([c0, c1, c2, c3, c4] == [a0, a1, a2, a3, a4]) = false := by rw [beq_eq_false_iff_ne]; exact he
        rw [t1] at E5
        have he2 := Lib.hid he
        clear t1 he
        go_wp2_with fail
        go_roundw
        case rel => exact ⟨k + 1, by omega, by go_num, HE.out (fun e => he2.out e.symm), balloc hB _, by simp; omega, (Below.heap_alloc wr _ _ hsz).trans hbox⟩
        case measure => simp [intOf]; omega
    · obtain rfl : k = 16 := by omega
      have hnone : R = none := by rw [hR.out]; exact num_none H.out
      clear hR
      subst hnone
      go_wp2_with fail
      go_ret2
      exact ⟨rfl, hB⟩
end Go.Proofs.YtooicigocljomaaDoor.Line
