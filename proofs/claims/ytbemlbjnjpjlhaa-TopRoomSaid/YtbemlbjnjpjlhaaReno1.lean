/- Package reno: a flow in memory, and the contracts of its methods. No statement is proved here. -/
import Derived.Test.YtbemlbjnjpjlhaaBase
import Derived.Test.YtbemlbjnjpjlhaaBlk
import Derived.Test.YtbemlbjnjpjlhaaErr
import Derived.Test.YtbemlbjnjpjlhaaRenoMath
import Derived.Deep.RegionLaw
namespace Go.Proofs.Ytbemlbjnjpjlhaa.Reno
open Go.ChangeShapes Go.WideShapes Go.ChangeAt Go.RowKit Go.Proofs.Ytbemlbjnjpjlhaa.Kit Go.Proofs.Ytbemlbjnjpjlhaa.App Go.Proofs.Ytbemlbjnjpjlhaa.Err
set_option linter.unusedVariables false
set_option maxRecDepth 20000
set_option maxHeartbeats 1000000

/-- A flow lies in block g. -/
def Flw (w : World) (g : Nat) (s : St) : Prop := Blk 44 w g [.int .i64 s.1, .int .i64 s.2.1, .int .i64 s.2.2]
theorem Flw.cells {w : World} {g : Nat} {a b k : Int} (h : Flw w g (a, b, k)) : w.cell? ⟨g, 0, none⟩ = some (.int .i64 a) ∧ w.cell? ⟨g, 1, none⟩ = some (.int .i64 b) ∧ w.cell? ⟨g, 2, none⟩ = some (.int .i64 k) ∧ w.frozen? ⟨g, 0, none⟩ = false ∧ w.frozen? ⟨g, 1, none⟩ = false ∧ w.frozen? ⟨g, 2, none⟩ = false :=
  ⟨Blk.cell h 0 _ rfl, Blk.cell h 1 _ rfl, Blk.cell h 2 _ rfl, Blk.fz h 0, Blk.fz h 1, Blk.fz h 2⟩
variable {w w' : World} {g : Nat} {s : St}
theorem Flw.lt (h : Flw w g s) : g < w.heap.size := Blk.lt h
theorem Flw.more {row : Option Nat} (h : Flw w g s) (hg : w.grownBy w' row) (hne : some g ≠ row) : Flw w' g s := Blk.more h hg hne
theorem Flw.below (h : Flw w g s) (hb : Below w.heap.size w w') : Flw w' g s := Blk.below h hb
theorem Flw.alloc (h : Flw w g s) (o : Obj) : Flw (w.alloc o) g s := Blk.alloc h o
theorem Flw.drewN (h : Flw w g s) (n : Nat) : Flw (w.drewN n) g s := h
theorem Flw.drew (h : Flw w g s) : Flw w.drew g s := h
theorem Flw.set0 {a b k : Int} (h : Flw w g (a, b, k)) (v : Int) : Flw (w.setCell ⟨g, 0, none⟩ (.int .i64 v)) g (v, b, k) := Blk.set h 0 _
theorem Flw.set1 {a b k : Int} (h : Flw w g (a, b, k)) (v : Int) : Flw (w.setCell ⟨g, 1, none⟩ (.int .i64 v)) g (a, v, k) := Blk.set h 1 _
theorem Flw.set2 {a b k : Int} (h : Flw w g (a, b, k)) (v : Int) : Flw (w.setCell ⟨g, 2, none⟩ (.int .i64 v)) g (a, b, v) := Blk.set h 2 _
theorem Flw.other (h : Flw w g s) (b' k : Nat) (v : Value) (hne : g ≠ b') : Flw (w.setCell ⟨b', k, none⟩ v) g s := Blk.other h b' k v hne

theorem new_any (w : World) : Calls Try.prog 8 #[] w fun e w' => e = .returned (.pointer (some ⟨w.heap.size, 0, none⟩)) ∧ Flw w' w.heap.size (1, 1000, 0) ∧ Below w.heap.size w w' := by
  go_enter Try.func8, Try.ntmps8
  go_wp2_with fail
  go_ret
  exact ⟨rfl, alloc_new w _, balloc (brefl w) _⟩
theorem window_any (g : Nat) (s : St) (w : World) (hP : Flw w g s) : Calls Try.prog 12 #[.pointer (some ⟨g, 0, none⟩)] w fun e w' => e = .returned (.tuple #[.int .i64 s.1, .int .i64 s.2.1]) ∧ ∃ m, w' = w.drewN m := by
  obtain ⟨a, b, k⟩ := s
  obtain ⟨c0, c1, c2, f0, f1, f2⟩ := hP.cells
  clear hP
  go_enter Try.func12, Try.ntmps12
  go_wp2_with fail
  go_region
  go_wp2_with fail
  go_ret2
  exact ⟨rfl, 1, rfl⟩
theorem halve_any (g : Nat) (s : St) (w : World) (hP : Flw w g s) (hO : Ok s) : Calls Try.prog 21 #[.pointer (some ⟨g, 0, none⟩)] w fun e w' => e = .returned (.tuple #[]) ∧ Flw w' g (s.1, half s.1, 0) ∧ w.grownBy w' (some g) := by
  obtain ⟨a, b, k⟩ := s
  obtain ⟨c0, c1, c2, f0, f1, f2⟩ := hP.cells
  have HP := Lib.hid hP
  obtain ⟨d, hd⟩ : ∃ d, a.tdiv 2 = d := ⟨_, rfl⟩
  have hdb : 0 ≤ d ∧ d ≤ 500 := by
    have q1 : 1 ≤ a := hO.1
    have q2 : a ≤ 1000 := hO.2.1
    rw [← hd, Int.tdiv_eq_ediv_of_nonneg (by omega)]
    omega
  obtain ⟨d1, d2⟩ := hdb
  have HD := Lib.hid (show half a = if d < 2 then 2 else d by unfold half; rw [hd])
  clear hP hO
  go_enter Try.func21, Try.ntmps21
  go_wp2_with fail
  all_goals go_end0
  · have e : half a = d := by rw [HD.out, if_neg (by omega)]
    rw [e]
    exact ⟨rfl, (HP.out.set1 _).set2 _, grown_set (set_grown w g 1 _) 2 _⟩
  · have e : half a = 2 := by rw [HD.out]; split <;> omega
    rw [e]
    exact ⟨rfl, (HP.out.set1 _).set2 _, grown_set (set_grown w g 1 _) 2 _⟩
theorem told_any (g : Nat) (s : St) (w : World) (hP : Flw w g s) (hO : Ok s) : Calls Try.prog 11 #[.pointer (some ⟨g, 0, none⟩)] w fun e w' => e = .returned (.tuple #[]) ∧ Flw w' g (told s) ∧ w.grownBy w' (some g) := by
  obtain ⟨a, b, k⟩ := s
  obtain ⟨o1, o2, o3, o4, o5, o6⟩ := hO
  simp only at o1 o2 o3 o4 o5 o6
  obtain ⟨c0, c1, c2, f0, f1, f2⟩ := hP.cells
  have HP := Lib.hid hP
  clear hP
  by_cases h1 : a = 1000
  · subst h1
    clear o1 o2 o6
    rw [told_full]
    go_enter Try.func11, Try.ntmps11
    go_wp2_with fail
    go_end0
    exact ⟨rfl, HP.out, grefl _ _⟩
  · have t1 : (a == 1000) = false := by rw [beq_eq_false_iff_ne]; exact h1
    by_cases h2 : a < b
    · have t2 : decide (a < b) = true := decide_eq_true h2
      rw [told_fast h1 h2]
      clear h1
      go_enter Try.func11, Try.ntmps11
      go_wp2_with fail
      go_region
      go_wp2_with fail
      go_end0
      exact ⟨rfl, (HP.out.set0 _).drew, grown_drew (set_grown _ g 0 _)⟩
    · have t2 : decide (a < b) = false := decide_eq_false h2
      by_cases h3 : k + 1 = a
      · have t3 : (k + 1 == a) = true := by rw [beq_iff_eq]; exact h3
        rw [told_turn h1 h2 h3]
        clear h1 h3
        go_enter Try.func11, Try.ntmps11
        go_wp2_with fail
        go_region
        go_wp2_with fail
        have HS := Lib.hid ((HP.out.set2 (k + 1)).drew)
        have HG := Lib.hid (grown_drew (set_grown w g 2 (.int .i64 (k + 1))))
        clear HP c0 c1 c2 f0 f1 f2
        generalize (w.setCell ⟨g, 2, none⟩ (.int .i64 (k + 1))).drew = w1 at HS HG ⊢
        obtain ⟨c0, c1, c2, f0, f1, f2⟩ := HS.out.cells
        go_region
        go_wp2_with fail
        go_end0
        exact ⟨rfl, ((HS.out.drew.set0 _).set2 _), grown_set (grown_set (grown_drew HG.out) 0 _) 2 _⟩
      · have t3 : (k + 1 == a) = false := by rw [beq_eq_false_iff_ne]; exact h3
        rw [told_slow h1 h2 h3]
        clear h1 h3
        go_enter Try.func11, Try.ntmps11
        go_wp2_with fail
        go_region
        go_wp2_with fail
        have HS := Lib.hid ((HP.out.set2 (k + 1)).drew)
        have HG := Lib.hid (grown_drew (set_grown w g 2 (.int .i64 (k + 1))))
        clear HP c0 c1 c2 f0 f1 f2
        generalize (w.setCell ⟨g, 2, none⟩ (.int .i64 (k + 1))).drew = w1 at HS HG ⊢
        obtain ⟨c0, c1, c2, f0, f1, f2⟩ := HS.out.cells
        go_region
        go_wp2_with fail
        go_end0
        exact ⟨rfl, HS.out.drew, grown_drew HG.out⟩
theorem lost_any (g : Nat) (s : St) (w : World) (hP : Flw w g s) (hO : Ok s) : Calls Try.prog 9 #[.pointer (some ⟨g, 0, none⟩)] w fun e w' => e = .returned (.tuple #[]) ∧ Flw w' g (lost s) ∧ w.grownBy w' (some g) := by
  have HA := Lib.hid (halve_any g s w hP hO)
  obtain ⟨a, b, k⟩ := s
  clear hP hO
  go_enter Try.func9, Try.ntmps9
  go_wp2_with fail
  refine HA.out.mono ?_; rintro e w1 ⟨rfl, hT1, hg1⟩
  have HT := Lib.hid (show Flw w1 g (a, half a, 0) from hT1)
  obtain ⟨c0, c1, c2, f0, f1, f2⟩ := HT.out.cells
  clear hT1 HA
  go_wp2_with fail
  go_end0
  exact ⟨rfl, HT.out.set0 _, grown_set hg1 0 _⟩
theorem late_any (g : Nat) (s : St) (w : World) (hP : Flw w g s) (hO : Ok s) : Calls Try.prog 10 #[.pointer (some ⟨g, 0, none⟩)] w fun e w' => e = .returned (.tuple #[]) ∧ Flw w' g (late s) ∧ w.grownBy w' (some g) := by
  have HA := Lib.hid (halve_any g s w hP hO)
  obtain ⟨a, b, k⟩ := s
  clear hP hO
  go_enter Try.func10, Try.ntmps10
  go_wp2_with fail
  refine HA.out.mono ?_; rintro e w1 ⟨rfl, hT1, hg1⟩
  have HT := Lib.hid (show Flw w1 g (a, half a, 0) from hT1)
  obtain ⟨c0, c1, c2, f0, f1, f2⟩ := HT.out.cells
  clear hT1 HA
  go_wp2_with fail
  go_end0
  exact ⟨rfl, HT.out.set0 _, grown_set hg1 0 _⟩
end Go.Proofs.Ytbemlbjnjpjlhaa.Reno
