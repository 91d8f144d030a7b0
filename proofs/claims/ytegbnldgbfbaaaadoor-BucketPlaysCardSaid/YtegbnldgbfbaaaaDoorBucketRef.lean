/- The document's bucket: what becomes of it. No statement is proved here. -/
import Derived.Test.YtegbnldgbfbaaaaDoorBlk
import Derived.Test.YtegbnldgbfbaaaaDoorCell4T
import Derived.Test.YtegbnldgbfbaaaaDoorBucketMath
import Derived.Deep.LoopGhost
namespace Go.Proofs.YtegbnldgbfbaaaaDoor.Bucket
open Go.ChangeShapes Go.WideShapes Go.ChangeAt Go.RowKit Go.Proofs.YtegbnldgbfbaaaaDoor.Kit Go.Proofs.YtegbnldgbfbaaaaDoor.App
set_option linter.unusedVariables false
set_option maxRecDepth 20000
set_option maxHeartbeats 4000000

theorem rleast_any (a b : Int) (w : World) (R : Int) (hR : (if b < a then b else a) = R) : Calls Tryd.prog 12 #[.int .i64 a, .int .i64 b] w fun e w' => e = .returned (.int .i64 R) ∧ w' = w := by
  subst hR
  by_cases h : a < b
  · have t1 : decide (a < b) = true := decide_eq_true h
    rw [if_neg (by omega)]
    go_enter Tryd.func12, Tryd.ntmps12
    go_wp2_with fail
    go_ret
    exact ⟨rfl, rfl⟩
  · have t1 : decide (a < b) = false := decide_eq_false h
    have e : (if b < a then b else a) = b := by split <;> omega
    rw [e]
    go_enter Tryd.func12, Tryd.ntmps12
    go_wp2_with fail
    go_ret
    exact ⟨rfl, rfl⟩
/-- The document's bucket lies in block g. -/
def Doc (w : World) (g : Nat) (r d h t : Int) : Prop := Blk 31 w g [.int .i64 r, .int .i64 d, .int .i64 h, .int .i64 t]
theorem Doc.cells {w : World} {g : Nat} {r d h t : Int} (k : Doc w g r d h t) : w.cell? ⟨g, 0, none⟩ = some (.int .i64 r) ∧ w.cell? ⟨g, 1, none⟩ = some (.int .i64 d) ∧ w.cell? ⟨g, 2, none⟩ = some (.int .i64 h) ∧ w.cell? ⟨g, 3, none⟩ = some (.int .i64 t) ∧ w.frozen? ⟨g, 2, none⟩ = false ∧ w.frozen? ⟨g, 3, none⟩ = false :=
  ⟨Blk.cell k 0 _ rfl, Blk.cell k 1 _ rfl, Blk.cell k 2 _ rfl, Blk.cell k 3 _ rfl, Blk.fz k 2, Blk.fz k 3⟩
theorem two_blocks (w : World) (g : Nat) (hg : w.heap.size = g) (o : Obj) (T : TypeId) (l : List Value) : Blk T ((w.alloc o).alloc (.cells l.toArray T)) (g + 1) l := by
  have h := Blk.new (w.alloc o) T l
  rw [World.size_alloc, hg] at h
  exact h
theorem rtake_any (r d h t a n : Int) (w : World) (hO : Ok r d h t) (hi : (0 ≤ a ∧ a ≤ 1000) ∧ (0 ≤ n ∧ n ≤ 100)) (ha : t ≤ a) (f : Int) (hf : fill d h (r * (a - t)) = f) (b : Bool) (h' : Int) (hb : decide (n ≤ f) = b) (hh : (if n ≤ f then f - n else f) = h') :
    Calls Tryd.prog 7 #[.agg #[.int .i64 r, .int .i64 d, .int .i64 h, .int .i64 t], .int .i64 a, .int .i64 n] w fun e w' => e = .returned (.tuple #[.agg #[.int .i64 r, .int .i64 d, .int .i64 h', .int .i64 a], .bool b]) ∧ Below w.heap.size w w' := by
  obtain ⟨o1, o2, o3, o4, o5, o6, o7, o8⟩ := hO
  obtain ⟨⟨a1, a2⟩, n1, n2⟩ := hi
  obtain ⟨J, hJ⟩ : ∃ J : Nat, a = t + J := ⟨(a - t).toNat, by omega⟩
  have hJ2 : a - t = J := by omega
  rw [hJ2] at hf
  have HF := Lib.hid hf
  have HJ := Lib.hid hJ
  have HL := Lib.hid (fun W x y R (hR : fill d x y = R) => rleast_any d (x + y) W R hR)
  have HHH := Lib.hid hh
  have HBB := Lib.hid hb
  clear hf hJ2 hJ ha hh hb
  obtain ⟨g, hg⟩ : ∃ g, w.heap.size = g := ⟨_, rfl⟩
  go_enter Tryd.func7, Tryd.ntmps7
  go_wp2_with fail
  have HA : Hid (Doc _ g r d h t) := Lib.hid (by rw [← hg]; exact (Blk.new w 31 [.int .i64 r, .int .i64 d, .int .i64 h, .int .i64 t]).alloc (.cells #[.int .i64 0, .int .i64 0, .int .i64 0, .int .i64 0] 31))
  have HZ : Hid (Doc _ (g + 1) 0 0 0 0) := Lib.hid (two_blocks w g hg (.cells #[.int .i64 r, .int .i64 d, .int .i64 h, .int .i64 t] 31) 31 [.int .i64 0, .int .i64 0, .int .i64 0, .int .i64 0])
  have HB := Lib.hid (balloc (balloc (brefl w) (.cells #[.int .i64 r, .int .i64 d, .int .i64 h, .int .i64 t] 31)) (.cells #[.int .i64 0, .int .i64 0, .int .i64 0, .int .i64 0] 31))
  have HG := Lib.hid (Nat.le_of_eq hg)
  try rw [hg]
  generalize (w.alloc (.cells #[.int .i64 r, .int .i64 d, .int .i64 h, .int .i64 t] 31)).alloc (.cells #[.int .i64 0, .int .i64 0, .int .i64 0, .int .i64 0] 31) = w2 at HA HZ HB ⊢
  clear hg
  go_loopg [] J (fun left wr => ∃ (j : Nat) (T x : Int), j + left = J ∧ Hid (T = t + (j : Int)) ∧ Hid (x = fill d h (r * (j : Int))) ∧ Hid (Doc wr g r d x T) ∧ Hid (Doc wr (g + 1) 0 0 0 0) ∧ Hid (Below w.heap.size w wr))
  case atStart => exact ⟨0, t, h, by omega, Lib.hid (by simp), Lib.hid (by rw [show ((0 : Nat) : Int) = 0 from rfl, Int.mul_zero, fill_zero o6]), HA, HZ, HB⟩
  case round =>
    obtain ⟨j, T, x, hj, HT, HX, HA1, HZ1, HB1⟩ := hrel
    clear HA HZ HB
    obtain ⟨x0, x1, x2, x3, f2, f3⟩ := HA1.out.cells
    have hx := fill_in (x := r * (j : Int)) o5 o6 (Int.mul_nonneg o1 (by omega))
    rw [← HX.out] at hx
    obtain ⟨hx1, hx2⟩ := hx
    have ht1 : 0 ≤ T := by have := HT.out; omega
    by_cases hc : T < a
    · have t1 : decide (T < a) = true := decide_eq_true hc
      have C := Lib.hid (fun W => HL.out W x r _ rfl)
      have HX2 : Hid (fill d x r = fill d h (r * ((j + 1 : Nat) : Int))) := Lib.hid (by rw [HX.out, fill_more o1, Int.natCast_add, show ((1 : Nat) : Int) = 1 from rfl, step_prod])
      generalize fill d x r = y at C HX2
      have HT2 : Hid (T + 1 = t + ((j + 1 : Nat) : Int)) := Lib.hid (by have := HT.out; omega)
      have hjl : j < J := by have := HT.out; have := HJ.out; omega
      go_wp2_with fail
      refine (C.out _).mono ?_; rintro e w3 ⟨rfl, rfl⟩
      go_wp2_with fail
      go_roundg (gk - 1)
      case measure => omega
      case rel => exact ⟨j + 1, T + 1, y, by omega, HT2, HX2, Lib.hid ((HA1.out.set 3 (.int .i64 (T + 1))).set 2 (.int .i64 y)), Lib.hid ((HZ1.out.other g 3 _ (by omega)).other g 2 _ (by omega)), Lib.hid (below_set (below_set HB1.out g 3 _ HG.out) g 2 _ HG.out)⟩
    · have t1 : decide (T < a) = false := decide_eq_false hc
      obtain rfl : T = a := by have := HT.out; have := HJ.out; omega
      obtain rfl : x = f := by
        rw [HX.out, ← HF.out]
        have e1 := HT.out
        have e2 := HJ.out
        rw [show (j : Int) = (J : Int) by omega]
      obtain ⟨z0, z1, z2, z3, g2, g3⟩ := HZ1.out.cells
      have g0 := Blk.fz HZ1.out 0
      have g1 := Blk.fz HZ1.out 1
      clear HX HT HF HJ hj hc ht1
      by_cases hn : n ≤ x
      · have t2 : decide (x < n) = false := decide_eq_false (by omega)
        obtain rfl : h' = x - n := by rw [← HHH.out, if_pos hn]
        obtain rfl : b = true := by rw [← HBB.out, decide_eq_true hn]
        clear hn HHH HBB
        go_wp2_with fail
        have HR := Lib.hid (((((HZ1.out.other g 2 (.int .i64 (x - n)) (by omega)).set 0 (.int .i64 r)).set 1 (.int .i64 d)).set 2 (.int .i64 (x - n))).set 3 (.int .i64 T))
        have hB4 := below_set (below_set (below_set (below_set (below_set HB1.out g 2 (.int .i64 (x - n)) HG.out) (g + 1) 0 (.int .i64 r) (Nat.le_succ_of_le HG.out)) (g + 1) 1 (.int .i64 d) (Nat.le_succ_of_le HG.out)) (g + 1) 2 (.int .i64 (x - n)) (Nat.le_succ_of_le HG.out)) (g + 1) 3 (.int .i64 T) (Nat.le_succ_of_le HG.out)
        exact bodyPost_ret (results_four rfl Tryd.isAgg31 Tryd.sizeOf31 _ _ (g + 1) rfl _ _ _ _ (HR.out.cell 0 _ rfl) (HR.out.cell 1 _ rfl) (HR.out.cell 2 _ rfl) (HR.out.cell 3 _ rfl)) rfl ⟨rfl, hB4⟩
      · have t2 : decide (x < n) = true := decide_eq_true (by omega)
        obtain rfl : h' = x := by rw [← HHH.out, if_neg hn]
        obtain rfl : b = false := by rw [← HBB.out, decide_eq_false hn]
        clear hn HHH HBB
        go_wp2_with fail
        have HR := Lib.hid ((((HZ1.out.set 0 (.int .i64 r)).set 1 (.int .i64 d)).set 2 (.int .i64 (h'))).set 3 (.int .i64 T))
        have hB4 := below_set (below_set (below_set (below_set (HB1.out) (g + 1) 0 (.int .i64 r) (Nat.le_succ_of_le HG.out)) (g + 1) 1 (.int .i64 d) (Nat.le_succ_of_le HG.out)) (g + 1) 2 (.int .i64 (h')) (Nat.le_succ_of_le HG.out)) (g + 1) 3 (.int .i64 T) (Nat.le_succ_of_le HG.out)
        exact bodyPost_ret (results_four rfl Tryd.isAgg31 Tryd.sizeOf31 _ _ (g + 1) rfl _ _ _ _ (HR.out.cell 0 _ rfl) (HR.out.cell 1 _ rfl) (HR.out.cell 2 _ rfl) (HR.out.cell 3 _ rfl)) rfl ⟨rfl, hB4⟩
end Go.Proofs.YtegbnldgbfbaaaaDoor.Bucket
