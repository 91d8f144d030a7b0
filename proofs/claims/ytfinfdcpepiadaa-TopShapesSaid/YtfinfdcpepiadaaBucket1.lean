/- Package bucket: a bucket in memory, and the contracts of its methods. No statement is proved here. -/
import Derived.Test.YtfinfdcpepiadaaBase
import Derived.Test.YtfinfdcpepiadaaBlk
import Derived.Test.YtfinfdcpepiadaaErr
import Derived.Test.YtfinfdcpepiadaaBucketMath
import Derived.BigRegion
import Derived.Deep.RegionLaw
namespace Go.Proofs.Ytfinfdcpepiadaa.Bucket
open Go.ChangeShapes Go.WideShapes Go.ChangeAt Go.RowKit Go.Proofs.Ytfinfdcpepiadaa.Kit Go.Proofs.Ytfinfdcpepiadaa.App Go.Proofs.Ytfinfdcpepiadaa.Err
set_option linter.unusedVariables false
set_option maxRecDepth 20000
set_option maxHeartbeats 1000000

/-- A bucket lies in block g. -/
def Bkt (w : World) (g : Nat) (r d h t : Int) : Prop := Blk 51 w g [.int .i64 r, .int .i64 d, .int .i64 h, .int .i64 t]
variable {w w' : World} {g : Nat} {r d h t : Int}
theorem Bkt.cells (k : Bkt w g r d h t) : w.cell? ⟨g, 0, none⟩ = some (.int .i64 r) ∧ w.cell? ⟨g, 1, none⟩ = some (.int .i64 d) ∧ w.cell? ⟨g, 2, none⟩ = some (.int .i64 h) ∧ w.cell? ⟨g, 3, none⟩ = some (.int .i64 t) ∧ w.frozen? ⟨g, 2, none⟩ = false ∧ w.frozen? ⟨g, 3, none⟩ = false :=
  ⟨Blk.cell k 0 _ rfl, Blk.cell k 1 _ rfl, Blk.cell k 2 _ rfl, Blk.cell k 3 _ rfl, Blk.fz k 2, Blk.fz k 3⟩
theorem Bkt.lt (k : Bkt w g r d h t) : g < w.heap.size := Blk.lt k
theorem Bkt.more {row : Option Nat} (k : Bkt w g r d h t) (hg : w.grownBy w' row) (hne : some g ≠ row) : Bkt w' g r d h t := Blk.more k hg hne
theorem Bkt.below (k : Bkt w g r d h t) (hb : Below w.heap.size w w') : Bkt w' g r d h t := Blk.below k hb
theorem Bkt.alloc (k : Bkt w g r d h t) (o : Obj) : Bkt (w.alloc o) g r d h t := Blk.alloc k o
theorem Bkt.drewN (k : Bkt w g r d h t) (n : Nat) : Bkt (w.drewN n) g r d h t := k
theorem Bkt.drew (k : Bkt w g r d h t) : Bkt w.drew g r d h t := k
theorem Bkt.set2 (k : Bkt w g r d h t) (v : Int) : Bkt (w.setCell ⟨g, 2, none⟩ (.int .i64 v)) g r d v t := Blk.set k 2 _
theorem Bkt.set3 (k : Bkt w g r d h t) (v : Int) : Bkt (w.setCell ⟨g, 3, none⟩ (.int .i64 v)) g r d h v := Blk.set k 3 _
theorem Bkt.other (k : Bkt w g r d h t) (b' j : Nat) (v : Value) (hne : g ≠ b') : Bkt (w.setCell ⟨b', j, none⟩ v) g r d h t := Blk.other k b' j v hne

theorem upto_any (m n : Int) (w : World) (R : Bool) (hR : R = (decide (0 ≤ n) && decide (n ≤ m))) : Calls Try.prog 24 #[.int .i64 m, .int .i64 n] w fun e w' => e = .returned (.bool R) ∧ w' = w := by
  subst hR
  by_cases h1 : 0 ≤ n
  · have t1 : decide (0 ≤ n) = true := decide_eq_true h1
    go_enter Try.func24, Try.ntmps24
    go_wp2_with fail
    go_ret
    exact ⟨by rw [t1]; simp, rfl⟩
  · have t1 : decide (0 ≤ n) = false := decide_eq_false h1
    go_enter Try.func24, Try.ntmps24
    go_wp2_with fail
    go_ret
    exact ⟨rfl, rfl⟩
theorem new_bad (r d : Int) (w : World) (h : ¬ ((0 ≤ r ∧ r ≤ 20) ∧ (0 ≤ d ∧ d ≤ 100))) : Calls Try.prog 16 #[.int .i64 r, .int .i64 d] w fun e w' => e = .returned (.tuple #[.pointer none, er 1]) ∧ w' = w := by
  by_cases h1 : 0 ≤ r ∧ r ≤ 20
  · have F := Lib.hid (fun W => upto_any 20 r W true (in_true h1))
    have G := Lib.hid (fun W => upto_any 100 d W false (in_false (fun h2 => h ⟨h1, h2⟩)))
    clear h h1
    go_enter Try.func16, Try.ntmps16
    go_wp2_with fail
    refine (F.out _).mono ?_; rintro e w1 ⟨rfl, rfl⟩
    go_wp2_with fail
    refine (G.out _).mono ?_; rintro e w1 ⟨rfl, rfl⟩
    go_wp2_with fail
    go_ret2
    exact ⟨rfl, rfl⟩
  · have F := Lib.hid (fun W => upto_any 20 r W false (in_false h1))
    clear h h1
    go_enter Try.func16, Try.ntmps16
    go_wp2_with fail
    refine (F.out _).mono ?_; rintro e w1 ⟨rfl, rfl⟩
    go_wp2_with fail
    go_ret2
    exact ⟨rfl, rfl⟩
theorem new_good (r d : Int) (w : World) (h : (0 ≤ r ∧ r ≤ 20) ∧ (0 ≤ d ∧ d ≤ 100)) : Calls Try.prog 16 #[.int .i64 r, .int .i64 d] w fun e w' => e = .returned (.tuple #[.pointer (some ⟨w.heap.size, 0, none⟩), .nilIface]) ∧ Bkt w' w.heap.size r d d 0 ∧ Below w.heap.size w w' := by
  have F := Lib.hid (fun W => upto_any 20 r W true (in_true h.1))
  have G := Lib.hid (fun W => upto_any 100 d W true (in_true h.2))
  clear h
  go_enter Try.func16, Try.ntmps16
  go_wp2_with fail
  refine (F.out _).mono ?_; rintro e w1 ⟨rfl, rfl⟩
  go_wp2_with fail
  refine (G.out _).mono ?_; rintro e w1 ⟨rfl, rfl⟩
  go_wp2_with fail
  go_ret2
  exact ⟨rfl, alloc_new w1 _, balloc (brefl w1) _⟩
theorem take_bad (g : Nat) (a n : Int) (w : World) (h : ¬ ((0 ≤ a ∧ a ≤ 1000) ∧ (0 ≤ n ∧ n ≤ 100))) : Calls Try.prog 18 #[.pointer (some ⟨g, 0, none⟩), .int .i64 a, .int .i64 n] w fun e w' => e = .returned (.tuple #[.bool false, er 1]) ∧ w' = w := by
  by_cases h1 : 0 ≤ a ∧ a ≤ 1000
  · have F := Lib.hid (fun W => upto_any 1000 a W true (in_true h1))
    have G := Lib.hid (fun W => upto_any 100 n W false (in_false (fun h2 => h ⟨h1, h2⟩)))
    clear h h1
    go_enter Try.func18, Try.ntmps18
    go_wp2_with fail
    refine (F.out _).mono ?_; rintro e w1 ⟨rfl, rfl⟩
    go_wp2_with fail
    refine (G.out _).mono ?_; rintro e w1 ⟨rfl, rfl⟩
    go_wp2_with fail
    go_ret2
    exact ⟨rfl, rfl⟩
  · have F := Lib.hid (fun W => upto_any 1000 a W false (in_false h1))
    clear h h1
    go_enter Try.func18, Try.ntmps18
    go_wp2_with fail
    refine (F.out _).mono ?_; rintro e w1 ⟨rfl, rfl⟩
    go_wp2_with fail
    go_ret2
    exact ⟨rfl, rfl⟩
theorem take_state (g : Nat) (r d h t a n : Int) (w : World) (hP : Bkt w g r d h t) (hi : (0 ≤ a ∧ a ≤ 1000) ∧ (0 ≤ n ∧ n ≤ 100)) (ha : a < t) : Calls Try.prog 18 #[.pointer (some ⟨g, 0, none⟩), .int .i64 a, .int .i64 n] w fun e w' => e = .returned (.tuple #[.bool false, er 7]) ∧ w' = w := by
  have F := Lib.hid (fun W => upto_any 1000 a W true (in_true hi.1))
  have G := Lib.hid (fun W => upto_any 100 n W true (in_true hi.2))
  obtain ⟨c0, c1, c2, c3, f2, f3⟩ := hP.cells
  have t1 : decide (a < t) = true := decide_eq_true ha
  clear hi hP
  go_enter Try.func18, Try.ntmps18
  go_wp2_with fail
  refine (F.out _).mono ?_; rintro e w1 ⟨rfl, rfl⟩
  go_wp2_with fail
  refine (G.out _).mono ?_; rintro e w1 ⟨rfl, rfl⟩
  go_wp2_with fail
  go_ret2
  exact ⟨rfl, rfl⟩
theorem take_any (g : Nat) (r d h t a n : Int) (w : World) (hP : Bkt w g r d h t) (hO : Ok r d h t) (hi : (0 ≤ a ∧ a ≤ 1000) ∧ (0 ≤ n ∧ n ≤ 100)) (ha : t ≤ a) (f : Int) (hf : fill d h (r * (a - t)) = f) :
    Calls Try.prog 18 #[.pointer (some ⟨g, 0, none⟩), .int .i64 a, .int .i64 n] w fun e w' => e = .returned (.tuple #[.bool (decide (n ≤ f)), .nilIface]) ∧ Bkt w' g r d (if n ≤ f then f - n else f) a ∧ w.grownBy w' (some g) := by
  have F := Lib.hid (fun W => upto_any 1000 a W true (in_true hi.1))
  have G := Lib.hid (fun W => upto_any 100 n W true (in_true hi.2))
  obtain ⟨c0, c1, c2, c3, f2, f3⟩ := hP.cells
  have HP := Lib.hid hP
  obtain ⟨o1, o2, o3, o4, o5, o6, o7, o8⟩ := hO
  obtain ⟨⟨h1, h2⟩, h3, h4⟩ := hi
  have t1 : decide (a < t) = false := decide_eq_false (by omega)
  have hx : 0 ≤ r * (a - t) ∧ r * (a - t) ≤ 20 * 1000 := prod_in o1 o2 (by omega) (by omega)
  obtain ⟨x1, x2⟩ := hx
  have hfi := fill_in (x := r * (a - t)) o5 o6 x1
  rw [hf] at hfi
  obtain ⟨f1', f2'⟩ := hfi
  unfold fill at hf
  clear hP
  by_cases hn : n ≤ f
  · have t2 : decide (f < n) = false := decide_eq_false (by omega)
    rw [if_pos hn, decide_eq_true hn]
    clear hn
    go_enter Try.func18, Try.ntmps18
    go_wp2_with fail
    refine (F.out _).mono ?_; rintro e w1 ⟨rfl, rfl⟩
    go_wp2_with fail
    refine (G.out _).mono ?_; rintro e w1 ⟨rfl, rfl⟩
    go_wp2_with fail
    go_region
    have HS := Lib.hid ((HP.out.set2 f).drew)
    have HG := Lib.hid (grown_drew (set_grown w1 g 2 (.int .i64 f)))
    clear HP c0 c1 c2 c3 f2 f3 hf x1 x2
    generalize (w1.setCell ⟨g, 2, none⟩ (.int .i64 f)).drew = w2 at HS HG ⊢
    obtain ⟨c0, c1, c2, c3, f2, f3⟩ := HS.out.cells
    go_wp2_with fail
    go_ret2
    exact ⟨rfl, (HS.out.set3 _).set2 _, grown_set (grown_set HG.out 3 _) 2 _⟩
  · have t2 : decide (f < n) = true := decide_eq_true (by omega)
    rw [if_neg hn, decide_eq_false hn]
    clear hn
    go_enter Try.func18, Try.ntmps18
    go_wp2_with fail
    refine (F.out _).mono ?_; rintro e w1 ⟨rfl, rfl⟩
    go_wp2_with fail
    refine (G.out _).mono ?_; rintro e w1 ⟨rfl, rfl⟩
    go_wp2_with fail
    go_region
    have HS := Lib.hid ((HP.out.set2 f).drew)
    have HG := Lib.hid (grown_drew (set_grown w1 g 2 (.int .i64 f)))
    clear HP c0 c1 c2 c3 f2 f3 hf x1 x2
    generalize (w1.setCell ⟨g, 2, none⟩ (.int .i64 f)).drew = w2 at HS HG ⊢
    obtain ⟨c0, c1, c2, c3, f2, f3⟩ := HS.out.cells
    go_wp2_with fail
    go_ret2
    exact ⟨rfl, HS.out.set3 _, grown_set HG.out 3 _⟩
end Go.Proofs.Ytfinfdcpepiadaa.Bucket
