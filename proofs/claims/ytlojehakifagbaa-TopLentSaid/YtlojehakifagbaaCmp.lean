/- Contracts of cmp.Compare and cmp.Or. No statement is proved here. -/
import Derived.Test.YtlojehakifagbaaCidr1
import Derived.Deep.RegionHeld3
namespace Go.Proofs.Ytlojehakifagbaa.Cidr
open Go.ChangeShapes Go.WideShapes Go.ChangeAt Go.RowKit Go.Sort Go.Proofs.Ytlojehakifagbaa.Kit Go.Proofs.Ytlojehakifagbaa.App Go.Proofs.Ytlojehakifagbaa.Cells Go.Proofs.Ytlojehakifagbaa.CidrMath
set_option linter.unusedVariables false
set_option maxRecDepth 20000

def cmpI (x y : Int) : Int := if x < y then -1 else if y < x then 1 else 0
theorem nan_any (x : Int) (w : World) : Calls Try.prog 34 #[.int .i64 x] w fun e w' => e = .returned (.bool false) ∧ w' = w := by
  have t1 : (x != x) = false := by simp
  go_enter Try.func34, Try.ntmps34
  go_wp2_with fail
  go_ret
  exact ⟨rfl, rfl⟩
theorem compare_any (x y : Int) (w : World) (R : Int) (hR : R = cmpI x y) : Calls Try.prog 29 #[.int .i64 x, .int .i64 y] w fun e w' => e = .returned (.int .i64 R) ∧ w' = w := by
  have NN := Lib.hid nan_any
  rcases Int.lt_trichotomy x y with h | h | h
  · have hR' : R = -1 := by rw [hR]; unfold cmpI; rw [if_pos h]
    clear hR
    subst hR'
    have t1 : decide (x < y) = true := decide_eq_true h
    go_enter Try.func29, Try.ntmps29
    go_wp2_with fail
    refine (NN.out _ _).mono ?_; rintro e w1 ⟨rfl, rfl⟩
    go_wp2_with fail
    refine (NN.out _ _).mono ?_; rintro e w2 ⟨rfl, rfl⟩
    go_wp2_with fail
    go_ret
    exact ⟨rfl, rfl⟩
  · have hR' : R = 0 := by rw [hR]; unfold cmpI; rw [if_neg (by omega), if_neg (by omega)]
    clear hR
    subst hR'
    subst h
    have t1 : decide (x < x) = false := decide_eq_false (by omega)
    have t2 : decide (x > x) = false := decide_eq_false (by omega)
    go_enter Try.func29, Try.ntmps29
    go_wp2_with fail
    refine (NN.out _ _).mono ?_; rintro e w1 ⟨rfl, rfl⟩
    go_wp2_with fail
    refine (NN.out _ _).mono ?_; rintro e w2 ⟨rfl, rfl⟩
    go_wp2_with fail
    go_ret
    exact ⟨rfl, rfl⟩
  · have hR' : R = 1 := by rw [hR]; unfold cmpI; rw [if_neg (by omega), if_pos h]
    clear hR
    subst hR'
    have t1 : decide (x < y) = false := decide_eq_false (by omega)
    have t2 : decide (x > y) = true := decide_eq_true h
    go_enter Try.func29, Try.ntmps29
    go_wp2_with fail
    refine (NN.out _ _).mono ?_; rintro e w1 ⟨rfl, rfl⟩
    go_wp2_with fail
    refine (NN.out _ _).mono ?_; rintro e w2 ⟨rfl, rfl⟩
    go_wp2_with fail
    go_ret
    exact ⟨rfl, rfl⟩

/-- The first of two numbers that is not nought. -/
def or2 (x y : Int) : Int := if x = 0 then y else x
set_option maxHeartbeats 1000000 in
theorem or_any (g : Nat) (x y : Int) (w : World) (R : Int) (hR : R = or2 x y) (c0 : w.cell? ⟨g, 0, none⟩ = some (.int .i64 x)) (c1 : w.cell? ⟨g, 1, none⟩ = some (.int .i64 y)) :
    Calls Try.prog 28 #[.slice (some ⟨g, 0, none⟩) 2 2] w fun e w' => e = .returned (.int .i64 R) ∧ w' = w := by
  unfold or2 at hR
  by_cases h : x = 0
  · rw [if_pos h] at hR
    subst hR
    subst h
    have t1 : ((0 : Int) != 0) = false := rfl
    by_cases h2 : R = 0
    · subst h2
      go_enter Try.func28, Try.ntmps28
      go_wp2_with fail
      refine wp_loop_rounds 3 ?_
      rw [rounds_succ]
      go_wp2_with fail
      rw [rounds_succ]
      go_wp2_with fail
      rw [rounds_succ]
      go_wp2_with fail
      go_ret
      exact ⟨rfl, rfl⟩
    · have t2 : (R != 0) = true := by simpa using h2
      go_enter Try.func28, Try.ntmps28
      go_wp2_with fail
      refine wp_loop_rounds 2 ?_
      rw [rounds_succ]
      go_wp2_with fail
      rw [rounds_succ]
      go_wp2_with fail
      go_ret
      exact ⟨rfl, rfl⟩
  · rw [if_neg h] at hR
    subst hR
    have t2 : (R != 0) = true := by simpa using h
    go_enter Try.func28, Try.ntmps28
    go_wp2_with fail
    refine wp_loop_rounds 1 ?_
    rw [rounds_succ]
    go_wp2_with fail
    go_ret
    exact ⟨rfl, rfl⟩

theorem new0 (w : World) (x y : Int) (t : TypeId) : (w.alloc (.cells #[.int .i64 x, .int .i64 y] t)).drew.cell? ⟨w.heap.size, 0, none⟩ = some (.int .i64 x) := (Box.new w ⟨x, y⟩ t).2.1
theorem new1 (w : World) (x y : Int) (t : TypeId) : (w.alloc (.cells #[.int .i64 x, .int .i64 y] t)).drew.cell? ⟨w.heap.size, 1, none⟩ = some (.int .i64 y) := (Box.new w ⟨x, y⟩ t).2.2
def cf (x y : Pfx) : Int := or2 (cmpI x.adr y.adr) (cmpI x.len y.len)
theorem cmpI_neg (x y : Int) : cmpI x y < 0 ↔ x < y := by
  unfold cmpI; by_cases h : x < y
  · rw [if_pos h]; omega
  · rw [if_neg h]; split <;> omega
theorem cmpI_zero (x y : Int) : cmpI x y = 0 ↔ x = y := by
  unfold cmpI; by_cases h : x < y
  · rw [if_pos h]; omega
  · rw [if_neg h]; split <;> omega
/-- One stands before another. -/
def Bf (x y : Pfx) : Prop := x.adr < y.adr ∨ x.adr = y.adr ∧ x.len < y.len
theorem cf_neg (x y : Pfx) : cf x y < 0 ↔ Bf x y := by
  unfold cf or2 Bf
  have h1 := cmpI_neg x.adr y.adr
  have h2 := cmpI_zero x.adr y.adr
  have h3 := cmpI_neg x.len y.len
  split <;> omega
end Go.Proofs.Ytlojehakifagbaa.Cidr
