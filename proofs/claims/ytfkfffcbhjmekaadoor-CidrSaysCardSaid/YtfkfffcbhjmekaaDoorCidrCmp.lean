/- Contracts of cmp.Compare, cmp.Or, and of the comparison of prefixes. No statement is proved here. -/
import Derived.Test.YtfkfffcbhjmekaaDoorCidr1
import Derived.Deep.RegionHeld3
namespace Go.Proofs.YtfkfffcbhjmekaaDoor.Cidr
open Go.ChangeShapes Go.WideShapes Go.ChangeAt Go.RowKit Go.Sort Go.Proofs.YtfkfffcbhjmekaaDoor.Kit Go.Proofs.YtfkfffcbhjmekaaDoor.App Go.Proofs.YtfkfffcbhjmekaaDoor.Cells Go.Proofs.YtfkfffcbhjmekaaDoor.CidrMath
set_option linter.unusedVariables false
set_option maxRecDepth 20000

def cmpI (x y : Int) : Int := if x < y then -1 else if y < x then 1 else 0
theorem nan_any (x : Int) (w : World) : Calls Tryd.prog 39 #[.int .i64 x] w fun e w' => e = .returned (.bool false) ∧ w' = w := by
  have t1 : (x != x) = false := by simp
  go_enter Tryd.func39, Tryd.ntmps39
  go_wp2_with fail
  go_ret
  exact ⟨rfl, rfl⟩
theorem compare_any (x y : Int) (w : World) (R : Int) (hR : R = cmpI x y) : Calls Tryd.prog 32 #[.int .i64 x, .int .i64 y] w fun e w' => e = .returned (.int .i64 R) ∧ w' = w := by
  have NN := Lib.hid nan_any
  rcases Int.lt_trichotomy x y with h | h | h
  · have hR' : R = -1 := by rw [hR]; unfold cmpI; rw [if_pos h]
    clear hR
    subst hR'
    have t1 : decide (x < y) = true := decide_eq_true h
    go_enter Tryd.func32, Tryd.ntmps32
    go_wp2_with fail
    refine (NN.out _ _).mono ?_; rintro e w1 ⟨rfl, rfl⟩
    go_wp2_with fail
    refine (NN.out _ _).mono ?_; rintro e w2 ⟨rfl, rfl⟩
    go_wp2_with fail
    go_ret
    exact ⟨rfl, rfl⟩
  · have hR' : R = 0 := by rw [hR]; unfold cmpI; rw [if_neg (by omega), if_neg (by omega)]
    clear hR
    subst hR'
    subst h
    have t1 : decide (x < x) = false := decide_eq_false (by omega)
    have t2 : decide (x > x) = false := decide_eq_false (by omega)
    go_enter Tryd.func32, Tryd.ntmps32
    go_wp2_with fail
    refine (NN.out _ _).mono ?_; rintro e w1 ⟨rfl, rfl⟩
    go_wp2_with fail
    refine (NN.out _ _).mono ?_; rintro e w2 ⟨rfl, rfl⟩
    go_wp2_with fail
    go_ret
    exact ⟨rfl, rfl⟩
  · have hR' : R = 1 := by rw [hR]; unfold cmpI; rw [if_neg (by omega), if_pos h]
    clear hR
    subst hR'
    have t1 : decide (x < y) = false := decide_eq_false (by omega)
    have t2 : decide (x > y) = true := decide_eq_true h
    go_enter Tryd.func32, Tryd.ntmps32
    go_wp2_with fail
    refine (NN.out _ _).mono ?_; rintro e w1 ⟨rfl, rfl⟩
    go_wp2_with fail
    refine (NN.out _ _).mono ?_; rintro e w2 ⟨rfl, rfl⟩
    go_wp2_with fail
    go_ret
    exact ⟨rfl, rfl⟩

/-- The first of two numbers that is not nought. -/
def or2 (x y : Int) : Int := if x = 0 then y else x
set_option maxHeartbeats 1000000 in
theorem or_any (g : Nat) (x y : Int) (w : World) (R : Int) (hR : R = or2 x y) (c0 : w.cell? ⟨g, 0, none⟩ = some (.int .i64 x)) (c1 : w.cell? ⟨g, 1, none⟩ = some (.int .i64 y)) :
    Calls Tryd.prog 31 #[.slice (some ⟨g, 0, none⟩) 2 2] w fun e w' => e = .returned (.int .i64 R) ∧ w' = w := by
  unfold or2 at hR
  by_cases h : x = 0
  · rw [if_pos h] at hR
    subst hR
    subst h
    have t1 : ((0 : Int) != 0) = false := rfl
    by_cases h2 : R = 0
    · subst h2
      go_enter Tryd.func31, Tryd.ntmps31
      go_wp2_with fail
      refine wp_loop_rounds 3 ?_
      rw [rounds_succ]
      go_wp2_with fail
      rw [rounds_succ]
      go_wp2_with fail
      rw [rounds_succ]
      go_wp2_with fail
      go_ret
      exact ⟨rfl, rfl⟩
    · have t2 : (R != 0) = true := by simpa using h2
      go_enter Tryd.func31, Tryd.ntmps31
      go_wp2_with fail
      refine wp_loop_rounds 2 ?_
      rw [rounds_succ]
      go_wp2_with fail
      rw [rounds_succ]
      go_wp2_with fail
      go_ret
      exact ⟨rfl, rfl⟩
  · rw [if_neg h] at hR
    subst hR
    have t2 : (R != 0) = true := by simpa using h
    go_enter Tryd.func31, Tryd.ntmps31
    go_wp2_with fail
    refine wp_loop_rounds 1 ?_
    rw [rounds_succ]
    go_wp2_with fail
    go_ret
    exact ⟨rfl, rfl⟩

theorem new0 (w : World) (x y : Int) (t : TypeId) : (w.alloc (.cells #[.int .i64 x, .int .i64 y] t)).drew.cell? ⟨w.heap.size, 0, none⟩ = some (.int .i64 x) := (Box.new w ⟨x, y⟩ t).2.1
theorem new1 (w : World) (x y : Int) (t : TypeId) : (w.alloc (.cells #[.int .i64 x, .int .i64 y] t)).drew.cell? ⟨w.heap.size, 1, none⟩ = some (.int .i64 y) := (Box.new w ⟨x, y⟩ t).2.2
def cf (x y : Pfx) : Int := or2 (cmpI x.adr y.adr) (cmpI x.len y.len)
set_option maxHeartbeats 1000000 in
theorem closure_any (x y : Pfx) (W : World) :
    Calls Tryd.prog 30 #[.agg #[.int .i64 x.adr, .int .i64 x.len], .agg #[.int .i64 y.adr, .int .i64 y.len]] W fun e w' => e = .returned (.int .i64 (cf x y)) ∧ ∃ q os', w' = grow (W.drewN q) os' := by
  obtain ⟨x0, x1⟩ := x
  obtain ⟨y0, y1⟩ := y
  simp only
  have CC := Lib.hid (fun x y W' => compare_any x y W' _ rfl)
  have O := Lib.hid (fun g W' => or_any g (cmpI x0 y0) (cmpI x1 y1) W' _ rfl)
  show Calls _ _ _ _ fun e w' => e = .returned (.int .i64 (or2 (cmpI x0 y0) (cmpI x1 y1))) ∧ _
  generalize or2 (cmpI x0 y0) (cmpI x1 y1) = r at O ⊢
  have bx := (Box.new W ⟨x0, x1⟩ 23).below (balloc (brefl _) (.cells #[.int .i64 y0, .int .i64 y1] 23)) (by simp)
  have bx2 := Box.new (W.alloc (.cells #[.int .i64 x0, .int .i64 x1] 23)) ⟨y0, y1⟩ 23
  simp only [World.size_alloc] at bx bx2
  obtain ⟨bxl, c0, c1⟩ := bx
  obtain ⟨bxl2, c2, c3⟩ := bx2
  simp only at c0 c1 c2 c3
  go_enter Tryd.func30, Tryd.ntmps30
  go_wp2_with fail
  have hG : Gr W ((W.alloc (.cells #[.int .i64 x0, .int .i64 x1] 23)).alloc (.cells #[.int .i64 y0, .int .i64 y1] 23)) := ⟨0, _, by rw [alloc_eq_grow, alloc_eq_grow, grow_grow]; rfl⟩
  clear bxl bxl2
  generalize (W.alloc (.cells #[.int .i64 x0, .int .i64 x1] 23)).alloc (.cells #[.int .i64 y0, .int .i64 y1] 23) = w0 at c0 c1 c2 c3 hG ⊢
  generalize W.heap.size = n0 at c0 c1 c2 c3 ⊢
  have HG := Lib.hid hG
  clear hG
  go_region_held3 (fun W' => W'.cell? ⟨n0, 0, none⟩ = some (.int .i64 x0) ∧ W'.cell? ⟨n0, 1, none⟩ = some (.int .i64 x1) ∧ W'.cell? ⟨n0 + 1, 0, none⟩ = some (.int .i64 y0) ∧ W'.cell? ⟨n0 + 1, 1, none⟩ = some (.int .i64 y1))
    (first
      | exact ⟨c0, c1, c2, c3⟩
      | go_keep)
    (first
      | (go_at_call 31; refine (O.out _ _ (new0 _ _ _ _) (new1 _ _ _ _)).mono ?_; rintro e w3 ⟨rfl, rfl⟩)
      | (go_at_call 32; refine (CC.out _ _ _).mono ?_; rintro e w1 ⟨rfl, rfl⟩))
  go_wp2_with fail
  go_ret
  exact ⟨rfl, HG.out.trans ⟨1, _, by rw [alloc_eq_grow]; rfl⟩⟩
theorem cmpI_neg (x y : Int) : cmpI x y < 0 ↔ x < y := by
  unfold cmpI; by_cases h : x < y
  · rw [if_pos h]; omega
  · rw [if_neg h]; split <;> omega
theorem cmpI_zero (x y : Int) : cmpI x y = 0 ↔ x = y := by
  unfold cmpI; by_cases h : x < y
  · rw [if_pos h]; omega
  · rw [if_neg h]; split <;> omega
/-- One stands before another. -/
def Bf (x y : Pfx) : Prop := x.adr < y.adr ∨ x.adr = y.adr ∧ x.len < y.len
theorem cf_neg (x y : Pfx) : cf x y < 0 ↔ Bf x y := by
  unfold cf or2 Bf
  have h1 := cmpI_neg x.adr y.adr
  have h2 := cmpI_zero x.adr y.adr
  have h3 := cmpI_neg x.len y.len
  split <;> omega
end Go.Proofs.YtfkfffcbhjmekaaDoor.Cidr
