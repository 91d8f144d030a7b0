/- Contracts of cmp.Compare and cmp.Or at two numbers; some draws, some blocks behind. General. No statement is proved here. -/
import Derived.Test.YtckfobkkjiiheaaBase
import Derived.Shelf.SlSortCmp.QuietGrown
import Derived.IntWalk
import Derived.Deep.RegionHeld3
namespace Go.Proofs.Ytckfobkkjiiheaa.Cmp
open Go.ChangeShapes Go.WideShapes Go.ChangeAt Go.RowKit Go.Sort Go.Proofs.Ytckfobkkjiiheaa.Kit Go.Proofs.Ytckfobkkjiiheaa.App
set_option linter.unusedVariables false
set_option maxRecDepth 20000

/-- Some draws, some blocks behind. -/
def Gr (w w' : World) : Prop := ∃ q os, w' = grow (w.drewN q) os
theorem Gr.refl (w : World) : Gr w w := ⟨0, #[], by rw [grow_empty]; rfl⟩
theorem drewN_grow_grow (w : World) (os os' : Array Obj) (n : Nat) : grow ((grow w os).drewN n) os' = grow (w.drewN n) (os ++ os') := by
  show grow (grow (w.drewN n) os) os' = _
  rw [grow_grow]
theorem Gr.trans {a b c : World} (h : Gr a b) (g : Gr b c) : Gr a c := by
  obtain ⟨q, os, rfl⟩ := h
  obtain ⟨q', os', rfl⟩ := g
  exact ⟨q + q', os ++ os', by rw [drewN_grow_grow, World.drewN_drewN]⟩
theorem Gr.below {w w' : World} (h : Gr w w') : Below w.heap.size w w' := by
  obtain ⟨q, os, rfl⟩ := h
  refine ⟨rfl, rfl, rfl, ?_, fun k hk => ?_⟩
  · simp [grow]
  · show (w.heap ++ os)[k]? = w.heap[k]?
    rw [Array.getElem?_append_left hk]
theorem mixed : Try.prog.follows .mixedOrders = true := by kernel_rfl

def cmpI (x y : Int) : Int := if x < y then -1 else if y < x then 1 else 0
theorem nan_any (x : Int) (w : World) : Calls Try.prog 42 #[.int .i64 x] w fun e w' => e = .returned (.bool false) ∧ w' = w := by
  have t1 : (x != x) = false := by simp
  go_enter Try.func42, Try.ntmps42
  go_wp2_with fail
  go_ret
  exact ⟨rfl, rfl⟩
theorem compare_any (x y : Int) (w : World) (R : Int) (hR : R = cmpI x y) : Calls Try.prog 38 #[.int .i64 x, .int .i64 y] w fun e w' => e = .returned (.int .i64 R) ∧ w' = w := by
  have NN := Lib.hid nan_any
  rcases Int.lt_trichotomy x y with h | h | h
  · have hR' : R = -1 := by rw [hR]; unfold cmpI; rw [if_pos h]
    clear hR
    subst hR'
    have t1 : decide (x < y) = true := decide_eq_true h
    go_enter Try.func38, Try.ntmps38
    go_wp2_with fail
    refine (NN.out _ _).mono ?_; rintro e w1 ⟨rfl, rfl⟩
    go_wp2_with fail
    refine (NN.out _ _).mono ?_; rintro e w2 ⟨rfl, rfl⟩
    go_wp2_with fail
    go_ret
    exact ⟨rfl, rfl⟩
  · have hR' : R = 0 := by rw [hR]; unfold cmpI; rw [if_neg (by omega), if_neg (by omega)]
    clear hR
    subst hR'
    subst h
    have t1 : decide (x < x) = false := decide_eq_false (by omega)
    have t2 : decide (x > x) = false := decide_eq_false (by omega)
    go_enter Try.func38, Try.ntmps38
    go_wp2_with fail
    refine (NN.out _ _).mono ?_; rintro e w1 ⟨rfl, rfl⟩
    go_wp2_with fail
    refine (NN.out _ _).mono ?_; rintro e w2 ⟨rfl, rfl⟩
    go_wp2_with fail
    go_ret
    exact ⟨rfl, rfl⟩
  · have hR' : R = 1 := by rw [hR]; unfold cmpI; rw [if_neg (by omega), if_pos h]
    clear hR
    subst hR'
    have t1 : decide (x < y) = false := decide_eq_false (by omega)
    have t2 : decide (x > y) = true := decide_eq_true h
    go_enter Try.func38, Try.ntmps38
    go_wp2_with fail
    refine (NN.out _ _).mono ?_; rintro e w1 ⟨rfl, rfl⟩
    go_wp2_with fail
    refine (NN.out _ _).mono ?_; rintro e w2 ⟨rfl, rfl⟩
    go_wp2_with fail
    go_ret
    exact ⟨rfl, rfl⟩

/-- The first of two numbers that is not nought. -/
def or2 (x y : Int) : Int := if x = 0 then y else x
set_option maxHeartbeats 1000000 in
theorem or_any (g : Nat) (x y : Int) (w : World) (R : Int) (hR : R = or2 x y) (c0 : w.cell? ⟨g, 0, none⟩ = some (.int .i64 x)) (c1 : w.cell? ⟨g, 1, none⟩ = some (.int .i64 y)) :
    Calls Try.prog 37 #[.slice (some ⟨g, 0, none⟩) 2 2] w fun e w' => e = .returned (.int .i64 R) ∧ w' = w := by
  unfold or2 at hR
  by_cases h : x = 0
  · rw [if_pos h] at hR
    subst hR
    subst h
    have t1 : ((0 : Int) != 0) = false := rfl
    by_cases h2 : R = 0
    · subst h2
      go_enter Try.func37, Try.ntmps37
      go_wp2_with fail
      refine wp_loop_rounds 3 ?_
      rw [rounds_succ]
      go_wp2_with fail
      rw [rounds_succ]
      go_wp2_with fail
      rw [rounds_succ]
      go_wp2_with fail
      go_ret
      exact ⟨rfl, rfl⟩
    · have t2 : (R != 0) = true := by simpa using h2
      go_enter Try.func37, Try.ntmps37
      go_wp2_with fail
      refine wp_loop_rounds 2 ?_
      rw [rounds_succ]
      go_wp2_with fail
      rw [rounds_succ]
      go_wp2_with fail
      go_ret
      exact ⟨rfl, rfl⟩
  · rw [if_neg h] at hR
    subst hR
    have t2 : (R != 0) = true := by simpa using h
    go_enter Try.func37, Try.ntmps37
    go_wp2_with fail
    refine wp_loop_rounds 1 ?_
    rw [rounds_succ]
    go_wp2_with fail
    go_ret
    exact ⟨rfl, rfl⟩

theorem cmpI_neg (x y : Int) : cmpI x y < 0 ↔ x < y := by
  unfold cmpI; by_cases h : x < y
  · rw [if_pos h]; omega
  · rw [if_neg h]; split <;> omega
theorem cmpI_zero (x y : Int) : cmpI x y = 0 ↔ x = y := by
  unfold cmpI; by_cases h : x < y
  · rw [if_pos h]; omega
  · rw [if_neg h]; split <;> omega
end Go.Proofs.Ytckfobkkjiiheaa.Cmp
