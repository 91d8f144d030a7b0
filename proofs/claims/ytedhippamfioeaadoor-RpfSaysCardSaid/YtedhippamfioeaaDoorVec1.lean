/- Package vector: checkLink and Check. No statement is proved here. -/
import Derived.Test.YtedhippamfioeaaDoorLink
import Derived.Test.YtedhippamfioeaaDoorSub
namespace Go.Proofs.YtedhippamfioeaaDoor.Vector
open Go.ChangeShapes Go.WideShapes Go.ChangeAt Go.RowKit Go.Proofs.YtedhippamfioeaaDoor.Kit Go.Proofs.YtedhippamfioeaaDoor.App Go.Proofs.YtedhippamfioeaaDoor.Cells Go.Proofs.YtedhippamfioeaaDoor.Err
set_option linter.unusedVariables false
set_option maxRecDepth 20000
set_option maxHeartbeats 1000000

theorem er_ne {c : Int} (h : c ≠ 0) : er c = .iface 57 (.int .i64 c) := by unfold er; rw [if_neg h]
theorem link_any (n : Int) (x : Lk) (w : World) (c : Int) (hc : bad1 n x = c) :
    Calls Tryd.prog 28 #[.int .i64 n, .agg #[.int .i64 x.a, .int .i64 x.b, .int .i64 x.c]] w fun e w' => e = .returned (er c) ∧ Below w.heap.size w w' := by
  obtain ⟨bl, c0, c1, c2⟩ := BoxL.new w x 39
  obtain ⟨a, b, d⟩ := x
  simp only at c0 c1 c2 ⊢
  unfold bad1 at hc
  simp only at hc
  have HB := Lib.hid (balloc (brefl w) (.cells #[.int .i64 a, .int .i64 b, .int .i64 d] 39))
  clear bl
  have fin : ∀ (P : Prop) [Decidable P], P → (if P then (1 : Int) else if a = b then 3 else 0) = c → c = 1 := fun P _ h h2 => by rw [if_pos h] at h2; exact h2.symm
  by_cases h1 : a < 0
  · have t1 : decide (a < 0) = true := decide_eq_true h1
    have HC := Lib.hid (show c = 1 from fin _ (by omega) hc)
    clear hc fin h1
    go_enter Tryd.func28, Tryd.ntmps28
    go_wp2_with fail
    go_ret
    exact ⟨by rw [HC.out]; rfl, HB.out⟩
  have t1 : decide (a < 0) = false := decide_eq_false h1
  by_cases h2 : n ≤ a
  · have t2 : decide (a ≥ n) = true := decide_eq_true (by omega)
    have HC := Lib.hid (show c = 1 from fin _ (by omega) hc)
    clear hc fin h1 h2
    go_enter Tryd.func28, Tryd.ntmps28
    go_wp2_with fail
    go_ret
    exact ⟨by rw [HC.out]; rfl, HB.out⟩
  have t2 : decide (a ≥ n) = false := decide_eq_false (by omega)
  by_cases h3 : b < 0
  · have t3 : decide (b < 0) = true := decide_eq_true h3
    have HC := Lib.hid (show c = 1 from fin _ (by omega) hc)
    clear hc fin h1 h2 h3
    go_enter Tryd.func28, Tryd.ntmps28
    go_wp2_with fail
    go_ret
    exact ⟨by rw [HC.out]; rfl, HB.out⟩
  have t3 : decide (b < 0) = false := decide_eq_false h3
  by_cases h4 : n ≤ b
  · have t4 : decide (b ≥ n) = true := decide_eq_true (by omega)
    have HC := Lib.hid (show c = 1 from fin _ (by omega) hc)
    clear hc fin h1 h2 h3 h4
    go_enter Tryd.func28, Tryd.ntmps28
    go_wp2_with fail
    go_ret
    exact ⟨by rw [HC.out]; rfl, HB.out⟩
  have t4 : decide (b ≥ n) = false := decide_eq_false (by omega)
  by_cases h5 : d < 1
  · have t5 : decide (d < 1) = true := decide_eq_true h5
    have HC := Lib.hid (show c = 1 from fin _ (by omega) hc)
    clear hc fin h1 h2 h3 h4 h5
    go_enter Tryd.func28, Tryd.ntmps28
    go_wp2_with fail
    go_ret
    exact ⟨by rw [HC.out]; rfl, HB.out⟩
  have t5 : decide (d < 1) = false := decide_eq_false h5
  by_cases h6 : 20 < d
  · have t6 : decide (d > 20) = true := decide_eq_true h6
    have HC := Lib.hid (show c = 1 from fin _ (by omega) hc)
    clear hc fin h1 h2 h3 h4 h5 h6
    go_enter Tryd.func28, Tryd.ntmps28
    go_wp2_with fail
    go_ret
    exact ⟨by rw [HC.out]; rfl, HB.out⟩
  have t6 : decide (d > 20) = false := decide_eq_false h6
  rw [if_neg (by omega)] at hc
  by_cases h7 : a = b
  · subst h7
    rw [if_pos rfl] at hc
    have HC := Lib.hid hc
    clear hc fin h1 h2 h3 h4 h5 h6
    go_enter Tryd.func28, Tryd.ntmps28
    go_wp2_with fail
    go_ret
    exact ⟨by rw [← HC.out]; rfl, HB.out⟩
  · have t7 : (a == b) = false := by rw [beq_eq_false_iff_ne]; exact h7
    rw [if_neg h7] at hc
    have HC := Lib.hid hc
    clear hc fin h1 h2 h3 h4 h5 h6 h7
    go_enter Tryd.func28, Tryd.ntmps28
    go_wp2_with fail
    go_ret
    exact ⟨by rw [← HC.out]; rfl, HB.out⟩

theorem check_any (n : Int) (p : Option Addr) (cap m : Nat) (ls : List Lk) (w : World) (hm : m = ls.length) (hi : CI layL w p cap ls) (c : Int) (hc : code n ls = c) :
    Calls Tryd.prog 23 #[.int .i64 n, .slice p m cap] w fun e w' => e = .returned (er c) ∧ Below w.heap.size w w' := by
  have hlen := hi.len_le
  rw [← hm] at hlen
  unfold code at hc
  rw [← hm] at hc
  by_cases h1 : n < 1
  · have t1 : decide (n < 1) = true := decide_eq_true h1
    rw [if_pos (.inl h1)] at hc
    subst hc
    rw [er_1]
    clear hm hi h1
    go_enter Tryd.func23, Tryd.ntmps23
    go_wp2_with fail
    go_ret
    exact ⟨rfl, brefl w⟩
  have t1 : decide (n < 1) = false := decide_eq_false h1
  by_cases h2 : 8 < n
  · have t2 : decide (n > 8) = true := decide_eq_true h2
    rw [if_pos (.inr h2)] at hc
    subst hc
    rw [er_1]
    clear hm hi h1 h2
    go_enter Tryd.func23, Tryd.ntmps23
    go_wp2_with fail
    go_ret
    exact ⟨rfl, brefl w⟩
  have t2 : decide (n > 8) = false := decide_eq_false h2
  rw [if_neg (by omega)] at hc
  by_cases h3 : 32 < m
  · have t3 : decide ((m : Int) > 32) = true := decide_eq_true (by omega)
    rw [if_pos h3] at hc
    subst hc
    rw [er_4]
    clear hm hi h1 h2 h3
    go_enter Tryd.func23, Tryd.ntmps23
    go_wp2_with fail
    go_ret
    exact ⟨rfl, brefl w⟩
  have t3 : decide ((m : Int) > 32) = false := decide_eq_false (by omega)
  rw [if_neg h3] at hc
  have HC := Lib.hid hc
  have HI := Lib.hid hi
  have HM := Lib.hid hm
  have LA := Lib.hid link_any
  clear hc hi hm h1 h2 h3
  go_enter Tryd.func23, Tryd.ntmps23
  go_wp2_with fail
  go_loopw [21] (fun iv wr => ∃ j : Nat, j ≤ m ∧ iv = .int .i64 j ∧ Hid (Below w.heap.size w wr) ∧ Hid (∀ i, i < j → bad1 n (lk ls i) = 0)) (fun i _ => m - (intOf i).toNat)
  case atStart => exact ⟨0, Nat.zero_le _, rfl, Lib.hid (brefl _), Lib.hid fun j hj => absurd hj (Nat.not_lt_zero _)⟩
  case round =>
    obtain ⟨j, hj, rfl, HBW, HZ⟩ := hrel
    by_cases hjm : j < m
    · have v1 : decide ((j : Int) < (m : Int)) = true := decide_eq_true (by omega)
      have hjl : j < ls.length := by rw [← HM.out]; exact hjm
      obtain ⟨b, off, rfl, hb, hat⟩ := links_at HI.out (by omega)
      obtain ⟨x0, x1, x2⟩ := hat wr HBW.out j hjl
      obtain ⟨d, hd⟩ : ∃ d, bad1 n (lk ls j) = d := ⟨_, rfl⟩
      have C := Lib.hid (fun W => LA.out n (lk ls j) W d hd)
      have HD := Lib.hid hd
      obtain ⟨x, hx⟩ : ∃ x, lk ls j = x := ⟨_, rfl⟩
      rw [hx] at x0 x1 x2 C
      obtain ⟨xa, xb, xc⟩ := x
      simp only at x0 x1 x2 C
      have HX := Lib.hid hx
      have HJL := Lib.hid hjl
      clear hat hd hx hb hjl
      by_cases h0 : d = 0
      · have HZ2 := Lib.hid (show ∀ i, i < j + 1 → bad1 n (lk ls i) = 0 from fun i hi => by
          by_cases e : i = j
          · rw [e, HD.out, h0]
          · exact HZ.out i (by omega))
        rw [h0, er_0] at C
        clear h0
        go_wp2_with fail
        refine (C.out _).mono ?_; rintro e w1 ⟨rfl, hb⟩
        have HB2 := Lib.hid (bcall (balloc HBW.out _) hb)
        clear hb C
        go_wp2_with fail
        go_roundw
        case rel => exact ⟨j + 1, by omega, by first | rfl | go_num, HB2, HZ2⟩
        case measure => simp [intOf]; omega
      · have HE := Lib.hid (show d = c by rw [← HC.out, bads_at ls j HJL.out HZ.out (by rw [HD.out]; exact h0), HD.out])
        rw [er_ne h0] at C
        have HR := Lib.hid (er_ne h0)
        clear h0
        go_wp2_with fail
        refine (C.out _).mono ?_; rintro e w1 ⟨rfl, hb⟩
        have HB2 := Lib.hid (bcall (balloc HBW.out _) hb)
        clear hb C
        go_wp2_with fail
        go_ret
        exact ⟨by rw [← HE.out, HR.out]; rfl, HB2.out⟩
    · obtain rfl : j = m := by omega
      have v1 : decide ((j : Int) < (j : Int)) = false := decide_eq_false (by omega)
      have HE := Lib.hid (show c = 0 by rw [← HC.out]; exact bads_none fun i hi => HZ.out i (by rw [HM.out]; exact hi))
      go_wp2_with fail
      go_ret
      exact ⟨by rw [HE.out]; rfl, HBW.out⟩
end Go.Proofs.YtedhippamfioeaaDoor.Vector
