/- Package gcra: a gate in memory, and the contracts of its methods and of Leak. No statement is proved here. -/
import Derived.Test.YtlnnejgahiiknaaDoorBase
import Derived.Test.YtlnnejgahiiknaaDoorBlk
import Derived.Test.YtlnnejgahiiknaaDoorErr
import Derived.Test.YtlnnejgahiiknaaDoorGcraMath
import Derived.BigRegion
import Derived.Deep.RegionLaw
namespace Go.Proofs.YtlnnejgahiiknaaDoor.Gcra
open Go.ChangeShapes Go.WideShapes Go.ChangeAt Go.RowKit Go.Proofs.YtlnnejgahiiknaaDoor.Kit Go.Proofs.YtlnnejgahiiknaaDoor.App Go.Proofs.YtlnnejgahiiknaaDoor.Err Go.Proofs.YtlnnejgahiiknaaDoor.GcraMath
set_option linter.unusedVariables false
set_option maxRecDepth 20000
set_option maxHeartbeats 1000000

/-- A gate lies in block g. -/
def Gat (w : World) (g : Nat) (s x n t : Int) : Prop := Blk 46 w g [.int .i64 s, .int .i64 x, .int .i64 n, .int .i64 t]
variable {w w' : World} {g : Nat} {s x n t : Int}
theorem Gat.cells (k : Gat w g s x n t) : w.cell? ⟨g, 0, none⟩ = some (.int .i64 s) ∧ w.cell? ⟨g, 1, none⟩ = some (.int .i64 x) ∧ w.cell? ⟨g, 2, none⟩ = some (.int .i64 n) ∧ w.cell? ⟨g, 3, none⟩ = some (.int .i64 t) ∧ w.frozen? ⟨g, 2, none⟩ = false ∧ w.frozen? ⟨g, 3, none⟩ = false :=
  ⟨Blk.cell k 0 _ rfl, Blk.cell k 1 _ rfl, Blk.cell k 2 _ rfl, Blk.cell k 3 _ rfl, Blk.fz k 2, Blk.fz k 3⟩
theorem Gat.lt (k : Gat w g s x n t) : g < w.heap.size := Blk.lt k
theorem Gat.more {row : Option Nat} (k : Gat w g s x n t) (hg : w.grownBy w' row) (hne : some g ≠ row) : Gat w' g s x n t := Blk.more k hg hne
theorem Gat.below (k : Gat w g s x n t) (hb : Below w.heap.size w w') : Gat w' g s x n t := Blk.below k hb
theorem Gat.drewN (k : Gat w g s x n t) (m : Nat) : Gat (w.drewN m) g s x n t := k
theorem Gat.drew (k : Gat w g s x n t) : Gat w.drew g s x n t := k
theorem Gat.set2 (k : Gat w g s x n t) (v : Int) : Gat (w.setCell ⟨g, 2, none⟩ (.int .i64 v)) g s x v t := Blk.set k 2 _
theorem Gat.set3 (k : Gat w g s x n t) (v : Int) : Gat (w.setCell ⟨g, 3, none⟩ (.int .i64 v)) g s x n v := Blk.set k 3 _

theorem allowed_any (s x : Int) (w : World) (R : Bool) (hR : R = decide (Right s x)) : Calls Tryd.prog 14 #[.int .i64 s, .int .i64 x] w fun e w' => e = .returned (.bool R) ∧ w' = w := by
  by_cases h1 : 1 ≤ s
  · by_cases h2 : s ≤ 20
    · by_cases h3 : 0 ≤ x
      · by_cases h4 : x ≤ 100
        · have hR2 : R = true := by rw [hR]; exact decide_eq_true ⟨⟨h1, h2⟩, h3, h4⟩
          have t1 : decide (1 ≤ s) = true := decide_eq_true h1
          have t2 : decide (s ≤ 20) = true := decide_eq_true h2
          have t3 : decide (0 ≤ x) = true := decide_eq_true h3
          have t4 : decide (x ≤ 100) = true := decide_eq_true h4
          clear hR
          subst hR2
          go_enter Tryd.func14, Tryd.ntmps14
          go_wp2_with fail
          go_ret
          exact ⟨rfl, rfl⟩
        · have hR2 : R = false := by rw [hR]; exact decide_eq_false (fun h => h4 h.2.2)
          have t1 : decide (1 ≤ s) = true := decide_eq_true h1
          have t2 : decide (s ≤ 20) = true := decide_eq_true h2
          have t3 : decide (0 ≤ x) = true := decide_eq_true h3
          have t4 : decide (x ≤ 100) = false := decide_eq_false h4
          clear hR
          subst hR2
          go_enter Tryd.func14, Tryd.ntmps14
          go_wp2_with fail
          go_ret
          exact ⟨rfl, rfl⟩
      · have hR2 : R = false := by rw [hR]; exact decide_eq_false (fun h => h3 h.2.1)
        have t1 : decide (1 ≤ s) = true := decide_eq_true h1
        have t2 : decide (s ≤ 20) = true := decide_eq_true h2
        have t3 : decide (0 ≤ x) = false := decide_eq_false h3
        clear hR
        subst hR2
        go_enter Tryd.func14, Tryd.ntmps14
        go_wp2_with fail
        go_ret
        exact ⟨rfl, rfl⟩
    · have hR2 : R = false := by rw [hR]; exact decide_eq_false (fun h => h2 h.1.2)
      have t1 : decide (1 ≤ s) = true := decide_eq_true h1
      have t2 : decide (s ≤ 20) = false := decide_eq_false h2
      clear hR
      subst hR2
      go_enter Tryd.func14, Tryd.ntmps14
      go_wp2_with fail
      go_ret
      exact ⟨rfl, rfl⟩
  · have hR2 : R = false := by rw [hR]; exact decide_eq_false (fun h => h1 h.1.1)
    have t1 : decide (1 ≤ s) = false := decide_eq_false h1
    clear hR
    subst hR2
    go_enter Tryd.func14, Tryd.ntmps14
    go_wp2_with fail
    go_ret
    exact ⟨rfl, rfl⟩
theorem check_range (a t : Int) (w : World) (h : ¬ (0 ≤ a ∧ a ≤ 1000)) : Calls Tryd.prog 15 #[.int .i64 a, .int .i64 t] w fun e w' => e = .returned (er 1) ∧ w' = w := by
  by_cases h1 : a < 0
  · have t1 : decide (a < 0) = true := decide_eq_true h1
    clear h h1
    go_enter Tryd.func15, Tryd.ntmps15
    go_wp2_with fail
    go_ret
    exact ⟨rfl, rfl⟩
  · have t1 : decide (a < 0) = false := decide_eq_false h1
    have t2 : decide (1000 < a) = true := decide_eq_true (by omega)
    clear h h1
    go_enter Tryd.func15, Tryd.ntmps15
    go_wp2_with fail
    go_ret
    exact ⟨rfl, rfl⟩
theorem check_state (a t : Int) (w : World) (h : 0 ≤ a ∧ a ≤ 1000) (h2 : a < t) : Calls Tryd.prog 15 #[.int .i64 a, .int .i64 t] w fun e w' => e = .returned (er 7) ∧ w' = w := by
  have t1 : decide (a < 0) = false := decide_eq_false (by omega)
  have t2 : decide (1000 < a) = false := decide_eq_false (by omega)
  have t3 : decide (a < t) = true := decide_eq_true h2
  clear h h2
  go_enter Tryd.func15, Tryd.ntmps15
  go_wp2_with fail
  go_ret
  exact ⟨rfl, rfl⟩
theorem check_good (a t : Int) (w : World) (h : 0 ≤ a ∧ a ≤ 1000) (h2 : ¬ a < t) : Calls Tryd.prog 15 #[.int .i64 a, .int .i64 t] w fun e w' => e = .returned .nilIface ∧ w' = w := by
  have t1 : decide (a < 0) = false := decide_eq_false (by omega)
  have t2 : decide (1000 < a) = false := decide_eq_false (by omega)
  have t3 : decide (a < t) = false := decide_eq_false h2
  clear h h2
  go_enter Tryd.func15, Tryd.ntmps15
  go_wp2_with fail
  go_ret
  exact ⟨rfl, rfl⟩
theorem new_bad (s x : Int) (w : World) (h : ¬ Right s x) : Calls Tryd.prog 8 #[.int .i64 s, .int .i64 x] w fun e w' => e = .returned (.tuple #[.pointer none, er 1]) ∧ w' = w := by
  have F := Lib.hid (allowed_any s x w false (by rw [decide_eq_false h]))
  clear h
  go_enter Tryd.func8, Tryd.ntmps8
  go_wp2_with fail
  refine F.out.mono ?_; rintro e w1 ⟨rfl, rfl⟩
  go_wp2_with fail
  go_ret2
  exact ⟨rfl, rfl⟩
theorem new_good (s x : Int) (w : World) (h : Right s x) : Calls Tryd.prog 8 #[.int .i64 s, .int .i64 x] w fun e w' => e = .returned (.tuple #[.pointer (some ⟨w.heap.size, 0, none⟩), .nilIface]) ∧ Gat w' w.heap.size s x 0 0 ∧ Below w.heap.size w w' := by
  have F := Lib.hid (allowed_any s x w true (by rw [decide_eq_true h]))
  clear h
  go_enter Tryd.func8, Tryd.ntmps8
  go_wp2_with fail
  refine F.out.mono ?_; rintro e w1 ⟨rfl, rfl⟩
  go_wp2_with fail
  go_ret2
  exact ⟨rfl, alloc_new w1 _, balloc (brefl w1) _⟩
theorem next_any (g : Nat) (s x n t : Int) (w : World) (hP : Gat w g s x n t) : Calls Tryd.prog 11 #[.pointer (some ⟨g, 0, none⟩)] w fun e w' => e = .returned (.int .i64 n) ∧ w' = w := by
  obtain ⟨c0, c1, c2, c3, f2, f3⟩ := hP.cells
  clear hP
  go_enter Tryd.func11, Tryd.ntmps11
  go_wp2_with fail
  go_ret
  exact ⟨rfl, rfl⟩
theorem come_range (g : Nat) (s x n t a : Int) (w : World) (hP : Gat w g s x n t) (h : ¬ (0 ≤ a ∧ a ≤ 1000)) : Calls Tryd.prog 10 #[.pointer (some ⟨g, 0, none⟩), .int .i64 a] w fun e w' => e = .returned (.tuple #[.bool false, er 1]) ∧ w' = w := by
  obtain ⟨c0, c1, c2, c3, f2, f3⟩ := hP.cells
  have C := Lib.hid (fun W => check_range a t W h)
  rw [er_1] at C
  clear hP h
  go_enter Tryd.func10, Tryd.ntmps10
  go_wp2_with fail
  refine (C.out _).mono ?_; rintro e w1 ⟨rfl, rfl⟩
  go_wp2_with fail
  go_ret2
  exact ⟨rfl, rfl⟩
theorem come_state (g : Nat) (s x n t a : Int) (w : World) (hP : Gat w g s x n t) (h : 0 ≤ a ∧ a ≤ 1000) (h2 : a < t) : Calls Tryd.prog 10 #[.pointer (some ⟨g, 0, none⟩), .int .i64 a] w fun e w' => e = .returned (.tuple #[.bool false, er 7]) ∧ w' = w := by
  obtain ⟨c0, c1, c2, c3, f2, f3⟩ := hP.cells
  have C := Lib.hid (fun W => check_state a t W h h2)
  rw [er_7] at C
  clear hP h h2
  go_enter Tryd.func10, Tryd.ntmps10
  go_wp2_with fail
  refine (C.out _).mono ?_; rintro e w1 ⟨rfl, rfl⟩
  go_wp2_with fail
  go_ret2
  exact ⟨rfl, rfl⟩
theorem come_any (g : Nat) (s x n t a : Int) (w : World) (hP : Gat w g s x n t) (hO : Ok s x n t) (h : 0 ≤ a ∧ a ≤ 1000) (h2 : ¬ a < t) : Calls Tryd.prog 10 #[.pointer (some ⟨g, 0, none⟩), .int .i64 a] w fun e w' => e = .returned (.tuple #[.bool (decide (n - x ≤ a)), .nilIface]) ∧ Gat w' g s x (nxt s x n a) a ∧ w.grownBy w' (some g) := by
  obtain ⟨c0, c1, c2, c3, f2, f3⟩ := hP.cells
  have C := Lib.hid (fun W => check_good a t W h h2)
  have HP := Lib.hid hP
  obtain ⟨⟨⟨o1, o2⟩, o3, o4⟩, o5, o6, o7, o8⟩ := hO
  obtain ⟨a1, a2⟩ := h
  clear hP h2
  by_cases hm : n - x ≤ a
  · have t1 : decide (a < n - x) = false := decide_eq_false (by omega)
    rw [decide_eq_true hm]
    have hn : nxt s x n a = later n a + s := by unfold nxt; rw [if_pos hm]
    rw [hn]
    have hl : (if n < a then a else n) = later n a := rfl
    have hl2 : 0 ≤ later n a ∧ later n a ≤ 2120 := by unfold later; split <;> omega
    obtain ⟨hl3, hl4⟩ := hl2
    generalize later n a = N at hl hl3 hl4
    clear hn hm
    go_enter Tryd.func10, Tryd.ntmps10
    go_wp2_with fail
    refine (C.out _).mono ?_; rintro e w1 ⟨rfl, rfl⟩
    have HS := Lib.hid (HP.out.set3 a)
    have HG := Lib.hid (set_grown w1 g 3 (.int .i64 a))
    go_wp2_with fail
    clear HP C c0 c1 c2 c3 f2 f3
    generalize w1.setCell ⟨g, 3, none⟩ (.int .i64 a) = w2 at HS HG ⊢
    obtain ⟨c0, c1, c2, c3, f2, f3⟩ := HS.out.cells
    go_region
    go_wp2_with fail
    have HS3 := Lib.hid HS.out.drew
    have HG3 := Lib.hid (grown_drew HG.out)
    clear HS HG c0 c1 c2 c3 f2 f3
    generalize w2.drew = w3 at HS3 HG3 ⊢
    obtain ⟨c0, c1, c2, c3, f2, f3⟩ := HS3.out.cells
    go_region
    go_wp2_with fail
    go_ret2
    exact ⟨rfl, HS3.out.set2 _, by first | exact grown_set HG3.out 2 _ | exact grown_drew (grown_set HG3.out 2 _)⟩
  · have t1 : decide (a < n - x) = true := decide_eq_true (by omega)
    rw [decide_eq_false hm]
    have hn : nxt s x n a = n := by unfold nxt; rw [if_neg hm]
    rw [hn]
    clear hn hm
    go_enter Tryd.func10, Tryd.ntmps10
    go_wp2_with fail
    refine (C.out _).mono ?_; rintro e w1 ⟨rfl, rfl⟩
    have HS := Lib.hid (HP.out.set3 a)
    have HG := Lib.hid (set_grown w1 g 3 (.int .i64 a))
    go_wp2_with fail
    clear HP C c0 c1 c2 c3 f2 f3
    generalize w1.setCell ⟨g, 3, none⟩ (.int .i64 a) = w2 at HS HG ⊢
    obtain ⟨c0, c1, c2, c3, f2, f3⟩ := HS.out.cells
    go_region
    go_wp2_with fail
    go_ret2
    exact ⟨rfl, HS.out, grown_drew HG.out⟩
end Go.Proofs.YtlnnejgahiiknaaDoor.Gcra
