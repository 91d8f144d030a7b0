/- Package window: a pipe in memory, and the contracts of its methods. No statement is proved here. -/
import Derived.Test.YtbemlbjnjpjlhaaBase
import Derived.Test.YtbemlbjnjpjlhaaBlk
import Derived.Test.YtbemlbjnjpjlhaaErr
import Derived.Deep.RegionLaw
namespace Go.Proofs.Ytbemlbjnjpjlhaa.Window
open Go.ChangeShapes Go.WideShapes Go.ChangeAt Go.RowKit Go.Proofs.Ytbemlbjnjpjlhaa.Kit Go.Proofs.Ytbemlbjnjpjlhaa.App Go.Proofs.Ytbemlbjnjpjlhaa.Err
set_option linter.unusedVariables false
set_option maxRecDepth 20000
set_option maxHeartbeats 1000000

/-- A pipe with room r, b buffered units and credit c lies in block g. -/
def Pip (w : World) (g : Nat) (r b c : Int) : Prop := Blk 49 w g [.int .i64 r, .int .i64 b, .int .i64 c]
/-- What holds of a pipe at all times. -/
def Ok (r b c : Int) : Prop := 0 ≤ b ∧ 0 ≤ c ∧ b + c ≤ r ∧ r ≤ 100
theorem Pip.cells {w : World} {g : Nat} {r b c : Int} (h : Pip w g r b c) : w.cell? ⟨g, 0, none⟩ = some (.int .i64 r) ∧ w.cell? ⟨g, 1, none⟩ = some (.int .i64 b) ∧ w.cell? ⟨g, 2, none⟩ = some (.int .i64 c) ∧ w.frozen? ⟨g, 0, none⟩ = false ∧ w.frozen? ⟨g, 1, none⟩ = false ∧ w.frozen? ⟨g, 2, none⟩ = false :=
  ⟨Blk.cell h 0 _ rfl, Blk.cell h 1 _ rfl, Blk.cell h 2 _ rfl, Blk.fz h 0, Blk.fz h 1, Blk.fz h 2⟩
theorem Pip.lt {w : World} {g : Nat} {r b c : Int} (h : Pip w g r b c) : g < w.heap.size := Blk.lt h
theorem Pip.more {w w' : World} {g : Nat} {r b c : Int} {row : Option Nat} (h : Pip w g r b c) (hg : w.grownBy w' row) (hne : some g ≠ row) : Pip w' g r b c := Blk.more h hg hne
theorem Pip.below {w w' : World} {g : Nat} {r b c : Int} (h : Pip w g r b c) (hb : Below w.heap.size w w') : Pip w' g r b c := Blk.below h hb
theorem Pip.alloc {w : World} {g : Nat} {r b c : Int} (h : Pip w g r b c) (o : Obj) : Pip (w.alloc o) g r b c := Blk.alloc h o
theorem Pip.drewN {w : World} {g : Nat} {r b c : Int} (h : Pip w g r b c) (n : Nat) : Pip (w.drewN n) g r b c := h
theorem Pip.drew {w : World} {g : Nat} {r b c : Int} (h : Pip w g r b c) : Pip w.drew g r b c := h
theorem Pip.set0 {w : World} {g : Nat} {r b c : Int} (h : Pip w g r b c) (k : Int) : Pip (w.setCell ⟨g, 0, none⟩ (.int .i64 k)) g k b c := Blk.set h 0 _
theorem Pip.set1 {w : World} {g : Nat} {r b c : Int} (h : Pip w g r b c) (k : Int) : Pip (w.setCell ⟨g, 1, none⟩ (.int .i64 k)) g r k c := Blk.set h 1 _
theorem Pip.set2 {w : World} {g : Nat} {r b c : Int} (h : Pip w g r b c) (k : Int) : Pip (w.setCell ⟨g, 2, none⟩ (.int .i64 k)) g r b k := Blk.set h 2 _
theorem Pip.other {w : World} {g : Nat} {r b c : Int} (h : Pip w g r b c) (b' k : Nat) (v : Value) (hne : g ≠ b') : Pip (w.setCell ⟨b', k, none⟩ v) g r b c := Blk.other h b' k v hne

theorem fits_any (n : Int) (w : World) (R : Bool) (hR : R = (decide (0 ≤ n) && decide (n ≤ 100))) : Calls Try.prog 23 #[.int .i64 n] w fun e w' => e = .returned (.bool R) ∧ w' = w := by
  subst hR
  by_cases h1 : 0 ≤ n
  · have t1 : decide (0 ≤ n) = true := decide_eq_true h1
    go_enter Try.func23, Try.ntmps23
    go_wp2_with fail
    go_ret
    exact ⟨by rw [t1]; simp, rfl⟩
  · have t1 : decide (0 ≤ n) = false := decide_eq_false h1
    go_enter Try.func23, Try.ntmps23
    go_wp2_with fail
    go_ret
    exact ⟨rfl, rfl⟩
theorem new_bad (n : Int) (w : World) (h : ¬ (0 ≤ n ∧ n ≤ 100)) : Calls Try.prog 15 #[.int .i64 n] w fun e w' => e = .returned (.tuple #[.pointer none, er 1]) ∧ w' = w := by
  have F := Lib.hid (fun W => fits_any n W false (in_false h))
  go_enter Try.func15, Try.ntmps15
  go_wp2_with fail
  refine (F.out _).mono ?_; rintro e w1 ⟨rfl, rfl⟩
  go_wp2_with fail
  go_ret2
  exact ⟨rfl, rfl⟩
theorem new_good (n : Int) (w : World) (h : 0 ≤ n ∧ n ≤ 100) : Calls Try.prog 15 #[.int .i64 n] w fun e w' => e = .returned (.tuple #[.pointer (some ⟨w.heap.size, 0, none⟩), .nilIface]) ∧ Pip w' w.heap.size n 0 n ∧ Below w.heap.size w w' := by
  have F := Lib.hid (fun W => fits_any n W true (in_true h))
  clear h
  go_enter Try.func15, Try.ntmps15
  go_wp2_with fail
  refine (F.out _).mono ?_; rintro e w1 ⟨rfl, rfl⟩
  go_wp2_with fail
  go_ret2
  exact ⟨rfl, alloc_new w1 _, balloc (brefl w1) _⟩
theorem send_bad (g : Nat) (n : Int) (w : World) (h : ¬ (0 ≤ n ∧ n ≤ 100)) : Calls Try.prog 18 #[.pointer (some ⟨g, 0, none⟩), .int .i64 n] w fun e w' => e = .returned (er 1) ∧ w' = w := by
  have F := Lib.hid (fun W => fits_any n W false (in_false h))
  clear h
  go_enter Try.func18, Try.ntmps18
  go_wp2_with fail
  refine (F.out _).mono ?_; rintro e w1 ⟨rfl, rfl⟩
  go_wp2_with fail
  go_ret
  exact ⟨rfl, rfl⟩
theorem send_full (g : Nat) (r b c n : Int) (w : World) (hP : Pip w g r b c) (h : 0 ≤ n ∧ n ≤ 100) (hn : c < n) : Calls Try.prog 18 #[.pointer (some ⟨g, 0, none⟩), .int .i64 n] w fun e w' => e = .returned (er 4) ∧ w' = w := by
  have F := Lib.hid (fun W => fits_any n W true (in_true h))
  obtain ⟨c0, c1, c2, f0, f1, f2⟩ := hP.cells
  have t1 : decide (c < n) = true := decide_eq_true hn
  clear h hP
  go_enter Try.func18, Try.ntmps18
  go_wp2_with fail
  refine (F.out _).mono ?_; rintro e w1 ⟨rfl, rfl⟩
  go_wp2_with fail
  go_ret
  exact ⟨rfl, rfl⟩
theorem send_good (g : Nat) (r b c n : Int) (w : World) (hP : Pip w g r b c) (hO : Ok r b c) (h : 0 ≤ n ∧ n ≤ 100) (hn : ¬ c < n) : Calls Try.prog 18 #[.pointer (some ⟨g, 0, none⟩), .int .i64 n] w fun e w' => e = .returned (er 0) ∧ Pip w' g r (b + n) (c - n) ∧ w.grownBy w' (some g) := by
  have F := Lib.hid (fun W => fits_any n W true (in_true h))
  obtain ⟨c0, c1, c2, f0, f1, f2⟩ := hP.cells
  have HP := Lib.hid hP
  obtain ⟨o1, o2, o3, o4⟩ := hO
  obtain ⟨h1, h2⟩ := h
  have t1 : decide (c < n) = false := decide_eq_false hn
  clear hP
  go_enter Try.func18, Try.ntmps18
  go_wp2_with fail
  refine (F.out _).mono ?_; rintro e w1 ⟨rfl, rfl⟩
  go_wp2_with fail
  go_ret
  exact ⟨rfl, (HP.out.set2 _).set1 _, grown_set (set_grown w1 g 2 _) 1 _⟩
theorem eat_bad (g : Nat) (n : Int) (w : World) (h : ¬ (0 ≤ n ∧ n ≤ 100)) : Calls Try.prog 19 #[.pointer (some ⟨g, 0, none⟩), .int .i64 n] w fun e w' => e = .returned (er 1) ∧ w' = w := by
  have F := Lib.hid (fun W => fits_any n W false (in_false h))
  clear h
  go_enter Try.func19, Try.ntmps19
  go_wp2_with fail
  refine (F.out _).mono ?_; rintro e w1 ⟨rfl, rfl⟩
  go_wp2_with fail
  go_ret
  exact ⟨rfl, rfl⟩
theorem eat_none (g : Nat) (r b c n : Int) (w : World) (hP : Pip w g r b c) (h : 0 ≤ n ∧ n ≤ 100) (hn : b < n) : Calls Try.prog 19 #[.pointer (some ⟨g, 0, none⟩), .int .i64 n] w fun e w' => e = .returned (er 5) ∧ w' = w := by
  have F := Lib.hid (fun W => fits_any n W true (in_true h))
  obtain ⟨c0, c1, c2, f0, f1, f2⟩ := hP.cells
  have t1 : decide (b < n) = true := decide_eq_true hn
  clear h hP
  go_enter Try.func19, Try.ntmps19
  go_wp2_with fail
  refine (F.out _).mono ?_; rintro e w1 ⟨rfl, rfl⟩
  go_wp2_with fail
  go_ret
  exact ⟨rfl, rfl⟩
theorem eat_good (g : Nat) (r b c n : Int) (w : World) (hP : Pip w g r b c) (hO : Ok r b c) (h : 0 ≤ n ∧ n ≤ 100) (hn : ¬ b < n) : Calls Try.prog 19 #[.pointer (some ⟨g, 0, none⟩), .int .i64 n] w fun e w' => e = .returned (er 0) ∧ Pip w' g r (b - n) c ∧ w.grownBy w' (some g) := by
  have F := Lib.hid (fun W => fits_any n W true (in_true h))
  obtain ⟨c0, c1, c2, f0, f1, f2⟩ := hP.cells
  have HP := Lib.hid hP
  obtain ⟨o1, o2, o3, o4⟩ := hO
  obtain ⟨h1, h2⟩ := h
  have t1 : decide (b < n) = false := decide_eq_false hn
  clear hP
  go_enter Try.func19, Try.ntmps19
  go_wp2_with fail
  refine (F.out _).mono ?_; rintro e w1 ⟨rfl, rfl⟩
  go_wp2_with fail
  go_ret
  exact ⟨rfl, HP.out.set1 _, set_grown w1 g 1 _⟩
theorem grant_any (g : Nat) (r b c : Int) (w : World) (hP : Pip w g r b c) (hO : Ok r b c) : Calls Try.prog 20 #[.pointer (some ⟨g, 0, none⟩)] w fun e w' => e = .returned (.int .i64 (r - b - c)) ∧ Pip w' g r b (r - b) ∧ w.grownBy w' (some g) := by
  obtain ⟨c0, c1, c2, f0, f1, f2⟩ := hP.cells
  have HP := Lib.hid hP
  obtain ⟨o1, o2, o3, o4⟩ := hO
  clear hP
  go_enter Try.func20, Try.ntmps20
  go_wp2_with fail
  go_region
  go_wp2_with fail
  go_ret
  exact ⟨rfl, HP.out.set2 _, grown_drew (set_grown w g 2 _)⟩
theorem waits_any (g : Nat) (r b c : Int) (w : World) (hP : Pip w g r b c) : Calls Try.prog 17 #[.pointer (some ⟨g, 0, none⟩)] w fun e w' => e = .returned (.tuple #[.int .i64 b, .int .i64 c]) ∧ ∃ m, w' = w.drewN m := by
  obtain ⟨c0, c1, c2, f0, f1, f2⟩ := hP.cells
  clear hP
  go_enter Try.func17, Try.ntmps17
  go_wp2_with fail
  go_region
  go_wp2_with fail
  go_ret2
  exact ⟨rfl, 1, rfl⟩
end Go.Proofs.Ytbemlbjnjpjlhaa.Window
