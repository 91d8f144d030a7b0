/- windowFact, and what any step leaves true of a pipe. No statement is proved here. -/
import Derived.Test.YtmenijpllddjnaaDoorWindow1
import Derived.Test.YtmenijpllddjnaaDoorRttIn
import Derived.Test.YtmenijpllddjnaaDoorAs
namespace Go.Proofs.YtmenijpllddjnaaDoor.Window
open Go.ChangeShapes Go.WideShapes Go.ChangeAt Go.RowKit Go.Proofs.YtmenijpllddjnaaDoor.Kit Go.Proofs.YtmenijpllddjnaaDoor.App Go.Proofs.YtmenijpllddjnaaDoor.Err Go.Proofs.YtmenijpllddjnaaDoor.As
set_option linter.unusedVariables false
set_option maxRecDepth 20000
set_option maxHeartbeats 1000000

theorem err_same (c : Int) (w : World) (hg : Handle w) : Calls Tryd.prog 12 #[er c, .int .i64 c] w fun e w' => e = .returned (.bool true) ∧ Below w.heap.size w w' :=
  (error_any c c w hg).mono fun e w' ⟨h1, h2⟩ => ⟨by rw [h1]; simp, h2⟩
theorem fact_any (w : World) (hH : Handle w) : Calls Tryd.prog 5 #[] w fun e w' => e = .returned (.bool true) ∧ Below w.heap.size w w' := by
  have N := Lib.hid (new_good 5 w (by omega))
  have HH := Lib.hid (fun W (hb : Below w.heap.size w W) => hH.below hb)
  have S5 := Lib.hid (fun W hT => send_good w.heap.size 5 0 5 5 W hT (by unfold Ok; omega) (by omega) (by omega))
  have S1 := Lib.hid (fun W hT => send_full w.heap.size 5 5 0 1 W hT (by omega) (by omega))
  have E2 := Lib.hid (fun W hT => eat_good w.heap.size 5 5 0 2 W hT (by unfold Ok; omega) (by omega) (by omega))
  have GR := Lib.hid (fun W hT => grant_any w.heap.size 5 3 0 W hT (by unfold Ok; omega))
  have S2 := Lib.hid (fun W hT => send_good w.heap.size 5 3 2 2 W hT (by unfold Ok; omega) (by omega) (by omega))
  clear hH
  go_enter Tryd.func5, Tryd.ntmps5
  go_wp2_with fail
  refine N.out.mono ?_; rintro e w1 ⟨rfl, hT1, hb1⟩
  have C := Lib.hid (S5.out w1 hT1)
  rw [er_0] at C
  clear hT1 N S5
  go_wp2_with fail
  refine C.out.mono ?_; rintro e w2 ⟨rfl, hT2, hg2⟩
  have hB2 := Lib.hid (gbelow hb1 (Nat.le_refl _) hg2 (Nat.le_refl _))
  have HT2 : Hid (Pip w2 w.heap.size 5 5 0) := Lib.hid hT2
  clear hT2 hb1 hg2 C
  have C := Lib.hid (S1.out w2 HT2.out)
  rw [er_4] at C
  clear S1
  go_wp2_with fail
  refine C.out.mono ?_; rintro e w3 ⟨rfl, rfl⟩
  clear C
  have C := Lib.hid (E2.out w3 HT2.out)
  rw [er_0] at C
  clear E2
  go_wp2_with fail
  refine C.out.mono ?_; rintro e w4 ⟨rfl, hT4, hg4⟩
  have hB4 := Lib.hid (gbelow hB2.out (Nat.le_refl _) hg4 (Nat.le_refl _))
  have HT4 : Hid (Pip w4 w.heap.size 5 3 0) := Lib.hid hT4
  clear hT4 hg4 C HT2 hB2
  have C := Lib.hid (GR.out w4 HT4.out)
  rw [show (5 : Int) - 3 - 0 = 2 from rfl, show (5 : Int) - 3 = 2 from rfl] at C
  clear GR
  go_wp2_with fail
  refine C.out.mono ?_; rintro e w5 ⟨rfl, hT5, hg5⟩
  have hB5 := Lib.hid (gbelow hB4.out (Nat.le_refl _) hg5 (Nat.le_refl _))
  have HT5 : Hid (Pip w5 w.heap.size 5 3 2) := Lib.hid hT5
  clear hT5 hg5 C HT4 hB4
  have C := Lib.hid (err_same 4 w5 (HH.out _ hB5.out))
  rw [er_4] at C
  go_wp2_with fail
  refine C.out.mono ?_; rintro e w6 ⟨rfl, hb6⟩
  have hB6 := Lib.hid (bcall hB5.out hb6)
  have HT6 := Lib.hid (HT5.out.below hb6)
  clear C hb6 hB5 HT5
  have C := Lib.hid (S2.out w6 HT6.out)
  rw [er_0] at C
  clear S2
  go_wp2_with fail
  refine C.out.mono ?_; rintro e w7 ⟨rfl, hT7, hg7⟩
  have hB7 := Lib.hid (gbelow hB6.out (Nat.le_refl _) hg7 (Nat.le_refl _))
  clear hT7 hg7 C HT6 hB6
  go_wp2_with fail
  go_ret
  exact ⟨rfl, hB7.out⟩
theorem send_keep (g : Nat) (r b c n : Int) (w : World) (hP : Pip w g r b c) (hO : Ok r b c) : Calls Tryd.prog 8 #[.pointer (some ⟨g, 0, none⟩), .int .i64 n] w fun e w' => ∃ v b' c', e = .returned v ∧ Pip w' g r b' c' ∧ Ok r b' c' ∧ w.grownBy w' (some g) := by
  by_cases h : 0 ≤ n ∧ n ≤ 100
  · by_cases hn : c < n
    · exact (send_full g r b c n w hP h hn).mono fun e w' ⟨h1, h2⟩ => ⟨_, b, c, h1, by rw [h2]; exact hP, hO, by rw [h2]; exact grefl _ _⟩
    · exact (send_good g r b c n w hP hO h hn).mono fun e w' ⟨h1, h2, h3⟩ => ⟨_, _, _, h1, h2, by obtain ⟨o1, o2, o3, o4⟩ := hO; unfold Ok; omega, h3⟩
  · exact (send_bad g n w h).mono fun e w' ⟨h1, h2⟩ => ⟨_, b, c, h1, by rw [h2]; exact hP, hO, by rw [h2]; exact grefl _ _⟩
theorem eat_keep (g : Nat) (r b c n : Int) (w : World) (hP : Pip w g r b c) (hO : Ok r b c) : Calls Tryd.prog 9 #[.pointer (some ⟨g, 0, none⟩), .int .i64 n] w fun e w' => ∃ v b' c', e = .returned v ∧ Pip w' g r b' c' ∧ Ok r b' c' ∧ w.grownBy w' (some g) := by
  by_cases h : 0 ≤ n ∧ n ≤ 100
  · by_cases hn : b < n
    · exact (eat_none g r b c n w hP h hn).mono fun e w' ⟨h1, h2⟩ => ⟨_, b, c, h1, by rw [h2]; exact hP, hO, by rw [h2]; exact grefl _ _⟩
    · exact (eat_good g r b c n w hP hO h hn).mono fun e w' ⟨h1, h2, h3⟩ => ⟨_, _, _, h1, h2, by obtain ⟨o1, o2, o3, o4⟩ := hO; unfold Ok; omega, h3⟩
  · exact (eat_bad g n w h).mono fun e w' ⟨h1, h2⟩ => ⟨_, b, c, h1, by rw [h2]; exact hP, hO, by rw [h2]; exact grefl _ _⟩
end Go.Proofs.YtmenijpllddjnaaDoor.Window
