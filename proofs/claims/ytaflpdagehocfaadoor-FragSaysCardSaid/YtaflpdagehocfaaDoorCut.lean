/- The contract of the document's cutting of texts. No statement is proved here. -/
import Derived.Test.YtaflpdagehocfaaDoorPartMath
namespace Go.Proofs.YtaflpdagehocfaaDoor.Part
open Go.ChangeShapes Go.WideShapes Go.ChangeAt Go.RowKit Go.Proofs.YtaflpdagehocfaaDoor.Kit Go.Proofs.YtaflpdagehocfaaDoor.App Go.Proofs.YtaflpdagehocfaaDoor.Cells
set_option linter.unusedVariables false
set_option maxRecDepth 20000

theorem rin (n low high : Int) (w : World) (R : Bool) (h : R = (decide (low ≤ n) && decide (n ≤ high))) :
    Calls Tryd.prog 16 #[.int .i64 n, .int .i64 low, .int .i64 high] w fun e w' => e = .returned (.bool R) ∧ w' = w := by
  subst h
  by_cases h1 : low ≤ n
  · have t1 : decide (low ≤ n) = true := decide_eq_true h1
    go_enter Tryd.func16, Tryd.ntmps16
    go_wp2_with fail
    go_ret
    exact ⟨by rw [t1]; simp, rfl⟩
  · have t1 : decide (low ≤ n) = false := decide_eq_false h1
    go_enter Tryd.func16, Tryd.ntmps16
    go_wp2_with fail
    go_ret
    exact ⟨rfl, rfl⟩

set_option maxHeartbeats 1000000 in
theorem rcut_some (s : ByteArray) (n : Nat) (w : World) (h : s.size ≤ 200) (hn : 0 < n) (hn2 : n ≤ 200) (h40 : more s n < 40) :
    Calls Tryd.prog 5 #[.string s, .int .i64 n] w fun e w' => ∃ v, e = .returned (.tuple #[v, .int .i64 0]) ∧ OC lay 23 w' w.heap.size v (parts s n) ∧ Below w.heap.size w w' := by
  have t0 : decide (200 < (s.size : Int)) = false := decide_eq_false (by omega)
  have t1 : (decide ((1 : Int) ≤ (n : Int)) && decide ((n : Int) ≤ 200)) = true := by simp; omega
  have IN := Lib.hid (rin n 1 200 w true t1.symm)
  go_enter Tryd.func5, Tryd.ntmps5
  go_wp2_with fail
  refine IN.out.mono ?_; rintro e w' ⟨rfl, rfl⟩
  go_wp2_with fail
  go_loopw [6, 7] (fun v iv wr => ∃ k : Nat, k ≤ more s n ∧ iv = .int .i64 (k * n : Nat) ∧ OC lay 23 wr w'.heap.size v (cuts s n k) ∧ Below w'.heap.size w' wr) (fun _ i _ => s.size - (intOf i).toNat)
  case atStart => exact ⟨0, Nat.zero_le _, by simp, OC.nil _ _ _ _, brefl _⟩
  case round =>
    obtain ⟨k, hk, rfl, hown, hB⟩ := hrel
    have hkm : k * n ≤ s.size := Nat.le_trans (Nat.mul_le_mul_right _ hk) (more_le s n hn)
    obtain ⟨at_, hat⟩ : ∃ x, k * n = x := ⟨_, rfl⟩
    rw [hat] at hkm
    have Hat := Lib.hid hat
    by_cases hlt : at_ + n < s.size
    · have s1 : decide ((s.size : Int) - (at_ : Int) > (n : Int)) = true := decide_eq_true (by omega)
      have s1' : decide ((n : Int) < (s.size : Int) - (at_ : Int)) = true := decide_eq_true (by omega)
      rw [hat]
      have hBs := hB.size
      have hkl := cuts_len s n k
      go_wp2_with (at_builtin
                   refine wp_appC ty rfl (.tmp 20) (.tmp 29) rfl w'.heap.size _ (cuts s n k) (some ⟨wr.heap.size, 0, none⟩) 1 1 [⟨(at_ : Int), true, s.extract at_ (at_ + n)⟩] rfl (hown.alloc _) rfl rfl (CI.one lay wr _ _) (by rw [hkl]; simp; omega) (Nat.le_trans hBs (by simp)) ?_
                   intro v1 wa hown1 hg1 hat1
                   have hb1 : Below w'.heap.size w' wa := below_oneC hB hBs _ hown hg1
                   clear hat1 hg1)
      go_roundw
      case rel =>
        have hk1 : k < more s n := more_lt s n k hn (by rw [Hat.out]; exact hlt)
        refine ⟨k + 1, hk1, ?_, ?_, hb1⟩
        · rw [Nat.succ_mul, Hat.out]; go_num
        · rw [cuts_succ]; unfold piece; rw [Hat.out]; exact hown1
      case measure => simp [intOf]; omega
    · have hke : k = more s n := more_eq s n k hn (by rw [Hat.out]; omega) hk
      have s1' : decide ((n : Int) < (s.size : Int) - (at_ : Int)) = false := decide_eq_false (by omega)
      rw [hat]
      have hBs := hB.size
      have hkl := cuts_len s n k
      go_wp2_with (at_builtin
                   refine wp_appC ty rfl (.tmp 34) (.tmp 40) rfl w'.heap.size _ (cuts s n k) (some ⟨wr.heap.size, 0, none⟩) 1 1 [⟨(at_ : Int), false, s.extract at_ s.size⟩] rfl (hown.alloc _) rfl rfl (CI.one lay wr _ _) (by rw [hkl]; simp; omega) (Nat.le_trans hBs (by simp)) ?_
                   intro v1 wa hown1 hg1 hat1
                   have hb1 : Below w'.heap.size w' wa := below_oneC hB hBs _ hown hg1
                   have he : cuts s n k ++ [⟨(at_ : Int), false, s.extract at_ s.size⟩] = parts s n := by unfold parts tail; rw [← hke, Hat.out]
                   rw [he] at hown1
                   obtain ⟨p1, c1, rfl, _⟩ := hown1.form
                   have hpl : (parts s n).length = more s n + 1 := parts_len s n
                   have s2 : decide ((40 : Int) < ((parts s n).length : Int)) = false := decide_eq_false (by omega)
                   clear hat1 hg1)
      go_ret2
      exact ⟨.slice p1 (parts s n).length c1, by rw [hpl]; rfl, hown1, hb1⟩
set_option maxHeartbeats 1000000 in
theorem rcut_many (s : ByteArray) (n : Nat) (w : World) (h : s.size ≤ 200) (hn : 0 < n) (hn2 : n ≤ 200) (h40 : 40 ≤ more s n) :
    Calls Tryd.prog 5 #[.string s, .int .i64 n] w fun e w' => e = .returned (.tuple #[.slice none 0 0, .int .i64 4]) ∧ Below w.heap.size w w' := by
  have t0 : decide (200 < (s.size : Int)) = false := decide_eq_false (by omega)
  have t1 : (decide ((1 : Int) ≤ (n : Int)) && decide ((n : Int) ≤ 200)) = true := by simp; omega
  have IN := Lib.hid (rin n 1 200 w true t1.symm)
  go_enter Tryd.func5, Tryd.ntmps5
  go_wp2_with fail
  refine IN.out.mono ?_; rintro e w' ⟨rfl, rfl⟩
  go_wp2_with fail
  go_loopw [6, 7] (fun v iv wr => ∃ k : Nat, k ≤ more s n ∧ iv = .int .i64 (k * n : Nat) ∧ OC lay 23 wr w'.heap.size v (cuts s n k) ∧ Below w'.heap.size w' wr) (fun _ i _ => s.size - (intOf i).toNat)
  case atStart => exact ⟨0, Nat.zero_le _, by simp, OC.nil _ _ _ _, brefl _⟩
  case round =>
    obtain ⟨k, hk, rfl, hown, hB⟩ := hrel
    have hkm : k * n ≤ s.size := Nat.le_trans (Nat.mul_le_mul_right _ hk) (more_le s n hn)
    obtain ⟨at_, hat⟩ : ∃ x, k * n = x := ⟨_, rfl⟩
    rw [hat] at hkm
    have Hat := Lib.hid hat
    by_cases hlt : at_ + n < s.size
    · have s1 : decide ((s.size : Int) - (at_ : Int) > (n : Int)) = true := decide_eq_true (by omega)
      have s1' : decide ((n : Int) < (s.size : Int) - (at_ : Int)) = true := decide_eq_true (by omega)
      rw [hat]
      have hBs := hB.size
      have hkl := cuts_len s n k
      go_wp2_with (at_builtin
                   refine wp_appC ty rfl (.tmp 20) (.tmp 29) rfl w'.heap.size _ (cuts s n k) (some ⟨wr.heap.size, 0, none⟩) 1 1 [⟨(at_ : Int), true, s.extract at_ (at_ + n)⟩] rfl (hown.alloc _) rfl rfl (CI.one lay wr _ _) (by rw [hkl]; have := more_le s n hn; have h9 : more s n ≤ more s n * n := Nat.le_mul_of_pos_right _ hn; simp; omega) (Nat.le_trans hBs (by simp)) ?_
                   intro v1 wa hown1 hg1 hat1
                   have hb1 : Below w'.heap.size w' wa := below_oneC hB hBs _ hown hg1
                   clear hat1 hg1)
      go_roundw
      case rel =>
        have hk1 : k < more s n := more_lt s n k hn (by rw [Hat.out]; exact hlt)
        refine ⟨k + 1, hk1, ?_, ?_, hb1⟩
        · rw [Nat.succ_mul, Hat.out]; go_num
        · rw [cuts_succ]; unfold piece; rw [Hat.out]; exact hown1
      case measure => simp [intOf]; omega
    · have hke : k = more s n := more_eq s n k hn (by rw [Hat.out]; omega) hk
      have s1' : decide ((n : Int) < (s.size : Int) - (at_ : Int)) = false := decide_eq_false (by omega)
      rw [hat]
      have hBs := hB.size
      have hkl := cuts_len s n k
      go_wp2_with (at_builtin
                   refine wp_appC ty rfl (.tmp 34) (.tmp 40) rfl w'.heap.size _ (cuts s n k) (some ⟨wr.heap.size, 0, none⟩) 1 1 [⟨(at_ : Int), false, s.extract at_ s.size⟩] rfl (hown.alloc _) rfl rfl (CI.one lay wr _ _) (by rw [hkl]; have := more_le s n hn; have h9 : more s n ≤ more s n * n := Nat.le_mul_of_pos_right _ hn; simp; omega) (Nat.le_trans hBs (by simp)) ?_
                   intro v1 wa hown1 hg1 hat1
                   have hb1 : Below w'.heap.size w' wa := below_oneC hB hBs _ hown hg1
                   have he : cuts s n k ++ [⟨(at_ : Int), false, s.extract at_ s.size⟩] = parts s n := by unfold parts tail; rw [← hke, Hat.out]
                   rw [he] at hown1
                   obtain ⟨p1, c1, rfl, _⟩ := hown1.form
                   have hpl : (parts s n).length = more s n + 1 := parts_len s n
                   have s2 : decide ((40 : Int) < ((parts s n).length : Int)) = true := decide_eq_true (by omega)
                   clear hat1 hg1)
      go_ret2
      exact ⟨rfl, hb1⟩
theorem rcut_big (s : ByteArray) (n : Int) (w : World) (h : 200 < s.size) :
    Calls Tryd.prog 5 #[.string s, .int .i64 n] w fun e w' => e = .returned (.tuple #[.slice none 0 0, .int .i64 4]) ∧ w' = w := by
  have t0 : decide ((200 : Int) < (s.size : Int)) = true := decide_eq_true (by omega)
  go_enter Tryd.func5, Tryd.ntmps5
  go_wp2_with fail
  go_ret2
  exact ⟨rfl, rfl⟩
theorem rcut_range (s : ByteArray) (n : Int) (w : World) (h : s.size ≤ 200) (hn : n < 1 ∨ 200 < n) :
    Calls Tryd.prog 5 #[.string s, .int .i64 n] w fun e w' => e = .returned (.tuple #[.slice none 0 0, .int .i64 1]) ∧ w' = w := by
  have t0 : decide ((200 : Int) < (s.size : Int)) = false := decide_eq_false (by omega)
  have t1 : (decide ((1 : Int) ≤ n) && decide (n ≤ 200)) = false := by simp; omega
  have IN := Lib.hid (rin n 1 200 w false t1.symm)
  go_enter Tryd.func5, Tryd.ntmps5
  go_wp2_with fail
  refine IN.out.mono ?_; rintro e w' ⟨rfl, rfl⟩
  go_wp2_with fail
  go_ret2
  exact ⟨rfl, rfl⟩
end Go.Proofs.YtaflpdagehocfaaDoor.Part
