/- Contracts of package serial. No statement is proved here. -/
import Derived.Test.YtdndcdgeljhgkaaDoorKit
import Derived.OwnWalk
namespace Go.Proofs.YtdndcdgeljhgkaaDoor.Serial
open Go.RowKit Go.Proofs.YtdndcdgeljhgkaaDoor.Kit
set_option linter.unusedVariables false

theorem ret_bool {a b : Bool} (h : a = b) : Ending.returned (.bool a) = .returned (.bool b) := by rw [h]
theorem ret_int {k : IntKind} {a b : Int} (h : a = b) : Ending.returned (.int k a) = .returned (.int k b) := by rw [h]

theorem within_yes (n m : Int) (w : World) (h : 0 ≤ n ∧ n ≤ m) : Calls Tryd.prog 14 #[.int .i64 n, .int .i64 m] w fun e w' => e = .returned (.bool true) ∧ w = w' := by
  obtain ⟨h1, h2⟩ := h
  have t1 : decide (0 ≤ n) = true := decide_eq_true h1
  have t2 : decide (n ≤ m) = true := decide_eq_true h2
  go_enter Tryd.func14, Tryd.ntmps14
  go_wp2
  go_ret
  exact ⟨rfl, rfl⟩
theorem within_no (n m : Int) (w : World) (h : ¬ (0 ≤ n ∧ n ≤ m)) : Calls Tryd.prog 14 #[.int .i64 n, .int .i64 m] w fun e w' => e = .returned (.bool false) ∧ w = w' := by
  by_cases h1 : 0 ≤ n
  · have h2 : ¬ n ≤ m := fun h2 => h ⟨h1, h2⟩
    clear h
    have t1 : decide (0 ≤ n) = true := decide_eq_true h1
    have t2 : decide (n ≤ m) = false := decide_eq_false h2
    go_enter Tryd.func14, Tryd.ntmps14
    go_wp2
    go_ret
    exact ⟨rfl, rfl⟩
  · clear h
    have t1 : decide (0 ≤ n) = false := decide_eq_false h1
    go_enter Tryd.func14, Tryd.ntmps14
    go_wp2
    go_ret
    exact ⟨rfl, rfl⟩
theorem isSerial_yes (n : Int) (w : World) (h : 0 ≤ n ∧ n ≤ 255) : Calls Tryd.prog 13 #[.int .i64 n] w fun e w' => e = .returned (.bool true) ∧ w = w' := by
  go_enter Tryd.func13, Tryd.ntmps13
  go_wp2_with (go_at_call 14; refine (within_yes n 255 _ h).mono ?_; rintro e w' ⟨rfl, rfl⟩)
  go_ret
  exact ⟨rfl, rfl⟩
theorem isSerial_no (n : Int) (w : World) (h : ¬ (0 ≤ n ∧ n ≤ 255)) : Calls Tryd.prog 13 #[.int .i64 n] w fun e w' => e = .returned (.bool false) ∧ w = w' := by
  go_enter Tryd.func13, Tryd.ntmps13
  go_wp2_with (go_at_call 14; refine (within_no n 255 _ h).mono ?_; rintro e w' ⟨rfl, rfl⟩)
  go_ret
  exact ⟨rfl, rfl⟩
theorem steps_any (a b : Int) (w : World) (ha : 0 ≤ a ∧ a ≤ 200000) (hb : 0 ≤ b ∧ b ≤ 200000) : Calls Tryd.prog 16 #[.int .i64 a, .int .i64 b] w fun e w' => e = .returned (.int .i64 ((b - a) % 256)) ∧ w = w' := by
  obtain ⟨a1, a2⟩ := ha
  obtain ⟨b1, b2⟩ := hb
  go_enter Tryd.func16, Tryd.ntmps16
  go_wp2
  go_ret
  exact ⟨rfl, rfl⟩

theorem add_ok (a n r : Int) (w : World) (ha : 0 ≤ a ∧ a ≤ 255) (hn : 0 ≤ n ∧ n ≤ 127) (hr : r = (a + n) % 256) :
    Calls Tryd.prog 6 #[.int .i64 a, .int .i64 n] w fun e w' => e = .returned (.tuple #[.int .i64 r, .nilIface]) ∧ w = w' := by
  have Hr := Lib.hid hr
  clear hr
  have ca := isSerial_yes a w ha
  have cn := within_yes n 127 w hn
  obtain ⟨a1, a2⟩ := ha
  obtain ⟨n1, n2⟩ := hn
  have Ca := Lib.hid ca
  have Cn := Lib.hid cn
  clear ca cn
  go_enter Tryd.func6, Tryd.ntmps6
  go_wp2_with fail
  refine Ca.out.mono ?_; rintro e w' ⟨rfl, rfl⟩
  go_wp2_with fail
  refine Cn.out.mono ?_; rintro e w' ⟨rfl, rfl⟩
  go_wp2
  go_ret2
  rw [Hr.out]
  exact ⟨rfl, rfl⟩
theorem add_no (a n : Int) (w : World) (h : ¬ (0 ≤ a ∧ a ≤ 255) ∨ ¬ (0 ≤ n ∧ n ≤ 127)) :
    Calls Tryd.prog 6 #[.int .i64 a, .int .i64 n] w fun e w' => e = .returned (.tuple #[.int .i64 0, .iface 35 (.int .i64 1)]) ∧ w = w' := by
  by_cases ha : 0 ≤ a ∧ a ≤ 255
  · have hn : ¬ (0 ≤ n ∧ n ≤ 127) := h.resolve_left (fun x => x ha)
    have Ca := Lib.hid (isSerial_yes a w ha)
    have Cn := Lib.hid (within_no n 127 w hn)
    clear ha hn h
    go_enter Tryd.func6, Tryd.ntmps6
    go_wp2_with fail
    refine Ca.out.mono ?_; rintro e w' ⟨rfl, rfl⟩
    go_wp2_with fail
    refine Cn.out.mono ?_; rintro e w' ⟨rfl, rfl⟩
    go_wp2
    go_ret2
    exact ⟨rfl, rfl⟩
  · have Ca := Lib.hid (isSerial_no a w ha)
    clear ha h
    go_enter Tryd.func6, Tryd.ntmps6
    go_wp2_with fail
    refine Ca.out.mono ?_; rintro e w' ⟨rfl, rfl⟩
    go_wp2
    go_ret2
    exact ⟨rfl, rfl⟩

theorem less_ok (a b : Int) (x t : Bool) (w : World) (ha : 0 ≤ a ∧ a ≤ 255) (hb : 0 ≤ b ∧ b ≤ 255) (hx : x = decide (1 ≤ (b - a) % 256 ∧ (b - a) % 256 ≤ 127)) (ht : t = decide ((b - a) % 256 ≠ 128)) :
    Calls Tryd.prog 9 #[.int .i64 a, .int .i64 b] w fun e w' => e = .returned (.tuple #[.bool x, .bool t, .nilIface]) ∧ w = w' := by
  have Ca := Lib.hid (isSerial_yes a w ha)
  have Cb := Lib.hid (isSerial_yes b w hb)
  have cs := steps_any a b w ⟨ha.1, by omega⟩ ⟨hb.1, by omega⟩
  clear ha hb
  obtain ⟨d, hd⟩ : ∃ d, (b - a) % 256 = d := ⟨_, rfl⟩
  have hd0 : 0 ≤ d := by omega
  have hd1 : d < 256 := by omega
  rw [hd] at cs hx ht
  have Cs := Lib.hid cs
  have Hx := Lib.hid hx
  have Ht := Lib.hid ht
  clear cs hx ht hd
  by_cases h1 : 1 ≤ d
  · have t1 : decide (1 ≤ d) = true := decide_eq_true h1
    by_cases h2 : d ≤ 127
    · have t2 : decide (d ≤ 127) = true := decide_eq_true h2
      have t3 : (d != 128) = true := by simp; omega
      go_enter Tryd.func9, Tryd.ntmps9
      go_wp2_with fail
      refine Ca.out.mono ?_; rintro e w' ⟨rfl, rfl⟩
      go_wp2_with fail
      refine Cb.out.mono ?_; rintro e w' ⟨rfl, rfl⟩
      go_wp2_with fail
      refine Cs.out.mono ?_; rintro e w' ⟨rfl, rfl⟩
      go_wp2
      go_ret3
      rw [Hx.out, Ht.out, decide_eq_true (⟨h1, h2⟩ : 1 ≤ d ∧ d ≤ 127), decide_eq_true (show d ≠ 128 by omega)]
      exact ⟨rfl, rfl⟩
    · have t2 : decide (d ≤ 127) = false := decide_eq_false h2
      cases t3 : (d != 128) <;>
      · go_enter Tryd.func9, Tryd.ntmps9
        go_wp2_with fail
        refine Ca.out.mono ?_; rintro e w' ⟨rfl, rfl⟩
        go_wp2_with fail
        refine Cb.out.mono ?_; rintro e w' ⟨rfl, rfl⟩
        go_wp2_with fail
        refine Cs.out.mono ?_; rintro e w' ⟨rfl, rfl⟩
        go_wp2
        go_ret3
        rw [Hx.out, Ht.out, decide_eq_false (show ¬ (1 ≤ d ∧ d ≤ 127) by omega)]
        simp at t3
        simp [t3]
  · have t1 : decide (1 ≤ d) = false := decide_eq_false h1
    have t3 : (d != 128) = true := by simp; omega
    go_enter Tryd.func9, Tryd.ntmps9
    go_wp2_with fail
    refine Ca.out.mono ?_; rintro e w' ⟨rfl, rfl⟩
    go_wp2_with fail
    refine Cb.out.mono ?_; rintro e w' ⟨rfl, rfl⟩
    go_wp2_with fail
    refine Cs.out.mono ?_; rintro e w' ⟨rfl, rfl⟩
    go_wp2
    go_ret3
    rw [Hx.out, Ht.out, decide_eq_false (show ¬ (1 ≤ d ∧ d ≤ 127) by omega), decide_eq_true (show d ≠ 128 by omega)]
    exact ⟨rfl, rfl⟩
theorem less_no (a b : Int) (w : World) (h : ¬ (0 ≤ a ∧ a ≤ 255) ∨ ¬ (0 ≤ b ∧ b ≤ 255)) :
    Calls Tryd.prog 9 #[.int .i64 a, .int .i64 b] w fun e w' => e = .returned (.tuple #[.bool false, .bool false, .iface 35 (.int .i64 1)]) ∧ w = w' := by
  by_cases ha : 0 ≤ a ∧ a ≤ 255
  · have hn : ¬ (0 ≤ b ∧ b ≤ 255) := h.resolve_left (fun x => x ha)
    have Ca := Lib.hid (isSerial_yes a w ha)
    have Cn := Lib.hid (isSerial_no b w hn)
    clear ha hn h
    go_enter Tryd.func9, Tryd.ntmps9
    go_wp2_with fail
    refine Ca.out.mono ?_; rintro e w' ⟨rfl, rfl⟩
    go_wp2_with fail
    refine Cn.out.mono ?_; rintro e w' ⟨rfl, rfl⟩
    go_wp2
    go_ret3
    exact ⟨rfl, rfl⟩
  · have Ca := Lib.hid (isSerial_no a w ha)
    clear ha h
    go_enter Tryd.func9, Tryd.ntmps9
    go_wp2_with fail
    refine Ca.out.mono ?_; rintro e w' ⟨rfl, rfl⟩
    go_wp2
    go_ret3
    exact ⟨rfl, rfl⟩

/-- The whole number that the program gives for a serial number and an expected one. -/
def whole (a x : Int) : Int := if 128 < (a - x) % 256 ∧ 0 ≤ x + (a - x) % 256 - 256 then x + (a - x) % 256 - 256 else x + (a - x) % 256

theorem whole_ok (a x r : Int) (w : World) (ha : 0 ≤ a ∧ a ≤ 255) (hx : 0 ≤ x ∧ x ≤ 100000) (hr : r = whole a x) :
    Calls Tryd.prog 11 #[.int .i64 a, .int .i64 x] w fun e w' => e = .returned (.tuple #[.int .i64 r, .nilIface]) ∧ w = w' := by
  have Ca := Lib.hid (isSerial_yes a w ha)
  have Cb := Lib.hid (within_yes x 100000 w hx)
  have cs := steps_any x a w ⟨hx.1, by omega⟩ ⟨ha.1, by omega⟩
  clear ha
  obtain ⟨x1, x2⟩ := hx
  unfold whole at hr
  obtain ⟨d, hd⟩ : ∃ d, (a - x) % 256 = d := ⟨_, rfl⟩
  have hd0 : 0 ≤ d := by omega
  have hd1 : d < 256 := by omega
  rw [hd] at cs hr
  have Cs := Lib.hid cs
  have Hr := Lib.hid hr
  clear cs hr hd
  by_cases h1 : 128 < d
  · have t1 : decide (128 < d) = true := decide_eq_true h1
    by_cases h2 : 0 ≤ x + d - 256
    · have t2 : decide (0 ≤ x + d - 256) = true := decide_eq_true h2
      go_enter Tryd.func11, Tryd.ntmps11
      go_wp2_with fail
      refine Ca.out.mono ?_; rintro e w' ⟨rfl, rfl⟩
      go_wp2_with fail
      refine Cb.out.mono ?_; rintro e w' ⟨rfl, rfl⟩
      go_wp2_with fail
      refine Cs.out.mono ?_; rintro e w' ⟨rfl, rfl⟩
      go_wp2
      go_ret2
      rw [Hr.out, if_pos ⟨h1, h2⟩]
      exact ⟨rfl, rfl⟩
    · have t2 : decide (0 ≤ x + d - 256) = false := decide_eq_false h2
      go_enter Tryd.func11, Tryd.ntmps11
      go_wp2_with fail
      refine Ca.out.mono ?_; rintro e w' ⟨rfl, rfl⟩
      go_wp2_with fail
      refine Cb.out.mono ?_; rintro e w' ⟨rfl, rfl⟩
      go_wp2_with fail
      refine Cs.out.mono ?_; rintro e w' ⟨rfl, rfl⟩
      go_wp2
      go_ret2
      rw [Hr.out, if_neg (show ¬ (128 < d ∧ 0 ≤ x + d - 256) by omega)]
      exact ⟨rfl, rfl⟩
  · have t1 : decide (128 < d) = false := decide_eq_false h1
    go_enter Tryd.func11, Tryd.ntmps11
    go_wp2_with fail
    refine Ca.out.mono ?_; rintro e w' ⟨rfl, rfl⟩
    go_wp2_with fail
    refine Cb.out.mono ?_; rintro e w' ⟨rfl, rfl⟩
    go_wp2_with fail
    refine Cs.out.mono ?_; rintro e w' ⟨rfl, rfl⟩
    go_wp2
    go_ret2
    rw [Hr.out, if_neg (show ¬ (128 < d ∧ 0 ≤ x + d - 256) by omega)]
    exact ⟨rfl, rfl⟩
theorem whole_no (a n : Int) (w : World) (h : ¬ (0 ≤ a ∧ a ≤ 255) ∨ ¬ (0 ≤ n ∧ n ≤ 100000)) :
    Calls Tryd.prog 11 #[.int .i64 a, .int .i64 n] w fun e w' => e = .returned (.tuple #[.int .i64 0, .iface 35 (.int .i64 1)]) ∧ w = w' := by
  by_cases ha : 0 ≤ a ∧ a ≤ 255
  · have hn : ¬ (0 ≤ n ∧ n ≤ 100000) := h.resolve_left (fun x => x ha)
    have Ca := Lib.hid (isSerial_yes a w ha)
    have Cn := Lib.hid (within_no n 100000 w hn)
    clear ha hn h
    go_enter Tryd.func11, Tryd.ntmps11
    go_wp2_with fail
    refine Ca.out.mono ?_; rintro e w' ⟨rfl, rfl⟩
    go_wp2_with fail
    refine Cn.out.mono ?_; rintro e w' ⟨rfl, rfl⟩
    go_wp2
    go_ret2
    exact ⟨rfl, rfl⟩
  · have Ca := Lib.hid (isSerial_no a w ha)
    clear ha h
    go_enter Tryd.func11, Tryd.ntmps11
    go_wp2_with fail
    refine Ca.out.mono ?_; rintro e w' ⟨rfl, rfl⟩
    go_wp2
    go_ret2
    exact ⟨rfl, rfl⟩

theorem in_yes (n a b : Int) (w : World) (h : a ≤ n ∧ n ≤ b) : Calls Tryd.prog 5 #[.int .i64 n, .int .i64 a, .int .i64 b] w fun e w' => e = .returned (.bool true) ∧ w = w' := by
  obtain ⟨h1, h2⟩ := h
  have t1 : decide (a ≤ n) = true := decide_eq_true h1
  have t2 : decide (n ≤ b) = true := decide_eq_true h2
  go_enter Tryd.func5, Tryd.ntmps5
  go_wp2
  go_ret
  exact ⟨rfl, rfl⟩
theorem in_no (n a b : Int) (w : World) (h : ¬ (a ≤ n ∧ n ≤ b)) : Calls Tryd.prog 5 #[.int .i64 n, .int .i64 a, .int .i64 b] w fun e w' => e = .returned (.bool false) ∧ w = w' := by
  by_cases h1 : a ≤ n
  · have h2 : ¬ n ≤ b := fun h2 => h ⟨h1, h2⟩
    clear h
    have t1 : decide (a ≤ n) = true := decide_eq_true h1
    have t2 : decide (n ≤ b) = false := decide_eq_false h2
    go_enter Tryd.func5, Tryd.ntmps5
    go_wp2
    go_ret
    exact ⟨rfl, rfl⟩
  · clear h
    have t1 : decide (a ≤ n) = false := decide_eq_false h1
    go_enter Tryd.func5, Tryd.ntmps5
    go_wp2
    go_ret
    exact ⟨rfl, rfl⟩
theorem in_any (n a b : Int) (w : World) : Calls Tryd.prog 5 #[.int .i64 n, .int .i64 a, .int .i64 b] w fun e w' => e = .returned (.bool (decide (a ≤ n ∧ n ≤ b))) ∧ w = w' := by
  by_cases h : a ≤ n ∧ n ≤ b
  · rw [decide_eq_true h]; exact in_yes n a b w h
  · rw [decide_eq_false h]; exact in_no n a b w h

theorem fact_any (w : World) : Calls Tryd.prog 12 #[] w fun e w' => e = .returned (.bool true) ∧ w = w' := by
  go_enter Tryd.func12, Tryd.ntmps12
  go_wp2_with fail
  refine (add_ok 250 10 4 _ (by decide) (by decide) (by decide)).mono ?_; rintro e w' ⟨rfl, rfl⟩
  go_wp2_with fail
  refine (less_ok 250 4 true true _ (by decide) (by decide) (by decide) (by decide)).mono ?_; rintro e w' ⟨rfl, rfl⟩
  go_wp2_with fail
  refine (whole_ok 4 250 260 _ (by decide) (by decide) (by decide)).mono ?_; rintro e w' ⟨rfl, rfl⟩
  go_wp2
  go_ret
  exact ⟨rfl, rfl⟩
end Go.Proofs.YtdndcdgeljhgkaaDoor.Serial
