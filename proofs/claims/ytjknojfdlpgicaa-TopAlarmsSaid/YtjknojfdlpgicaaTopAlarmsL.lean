/- A timer that is started with the time to wait expires then, and the time to wait doubles: the law returns true for every input. No condition. -/
import Derived.Test.YtjknojfdlpgicaaWheelLaw
import Derived.Test.YtjknojfdlpgicaaRtt1
namespace Go.Proofs.Ytjknojfdlpgicaa.TopAlarmsL
open Go.ChangeShapes Go.WideShapes Go.ChangeAt Go.RowKit Go.Proofs.Ytjknojfdlpgicaa.Kit Go.Proofs.Ytjknojfdlpgicaa.App Go.Proofs.Ytjknojfdlpgicaa.MapZ Go.Proofs.Ytjknojfdlpgicaa.WheelMath Go.Proofs.Ytjknojfdlpgicaa.Wheel
set_option linter.unusedVariables false
set_option maxRecDepth 20000

abbrev Law (took late : Int) (w : World) : Prop := Calls Try.prog 4 #[.int .i64 took, .int .i64 late] w fun e w' => e = .returned (.bool true) ∧ Below w.heap.size w w'
theorem tin_no (n a b : Int) (w : World) (h : ¬ (a ≤ n ∧ n ≤ b)) : Calls Try.prog 15 #[.int .i64 n, .int .i64 a, .int .i64 b] w fun e w' => e = .returned (.bool false) ∧ w' = w := by
  by_cases h1 : a ≤ n
  · have t1 : decide (a ≤ n) = true := decide_eq_true h1
    have t2 : decide (n ≤ b) = false := decide_eq_false (by omega)
    go_enter Try.func15, Try.ntmps15
    go_wp2_with fail
    go_ret
    exact ⟨rfl, rfl⟩
  · have t1 : decide (a ≤ n) = false := decide_eq_false h1
    go_enter Try.func15, Try.ntmps15
    go_wp2_with fail
    go_ret
    exact ⟨rfl, rfl⟩
def one (A : Nat) : Int → Nat := updZ none0 1 A
theorem one_nil (A k : Nat) (h : k + 1 < A) : dueL (aft (one A) k) = [] := due_nil fun i => by
  unfold aft one updZ none0
  split <;> omega
theorem one_due (A : Nat) (h : 1 ≤ A) : dueL (aft (one A) (A - 1)) = [1] := by
  have e : aft (one A) (A - 1) = updZ none0 1 1 := by
    funext i
    unfold aft one updZ none0
    split <;> omega
  rw [e]
  decide
theorem tm_keep {X : Nat → Prop} {w w' : World} {g : Nat} {s p W : Int} (h : Go.Proofs.Ytjknojfdlpgicaa.Rtt.Tm w g s p W) (hk : Keep X w w') (hg : X g) : Go.Proofs.Ytjknojfdlpgicaa.Rtt.Tm w' g s p W := (hk.block g hg).trans h
set_option maxHeartbeats 4000000 in
theorem core (took late : Int) (w : World) (hk0 : -9223372036854775808 ≤ took ∧ took ≤ 9223372036854775807) (hl0 : -9223372036854775808 ≤ late ∧ late ≤ 9223372036854775807) : Law took late w := by
  have NG := Lib.hid (Go.Proofs.Ytjknojfdlpgicaa.Rtt.new_good 3 w (by omega) (by omega))
  have NW := Lib.hid (fun W => new_any W)
  unfold Law
  go_enter Try.func4, Try.ntmps4
  go_wp2_with fail
  refine NG.out.mono ?_; rintro e w1 ⟨rfl, hT1, hb1⟩
  have HT1 := Lib.hid hT1
  have HB1 := Lib.hid hb1
  clear hT1 hb1 NG
  obtain ⟨g, hg⟩ : ∃ g, w.heap.size = g := ⟨_, rfl⟩
  have HG := Lib.hid (Nat.le_of_eq hg)
  rw [hg] at HT1
  rw [hg] at ⊢
  clear hg
  have W1 := Lib.hid (Go.Proofs.Ytjknojfdlpgicaa.Rtt.wait_any g (-1) 0 3 w1 HT1.out)
  go_wp2_with fail
  refine W1.out.mono ?_; rintro e w2 ⟨rfl, rfl⟩
  clear W1
  by_cases hk : 0 ≤ took ∧ took ≤ 100000
  · have C := Lib.hid (Go.Proofs.Ytjknojfdlpgicaa.Rtt.take_good g (-1) 0 3 took _ _ _ w2 HT1.out (Go.Proofs.Ytjknojfdlpgicaa.RttMath.ok_new (by omega) (by omega)) hk.1 hk.2 rfl rfl rfl)
    have HO := Lib.hid (Go.Proofs.Ytjknojfdlpgicaa.RttMath.ok_take (Go.Proofs.Ytjknojfdlpgicaa.RttMath.ok_new (W := 3) (by omega) (by omega)) hk.1 hk.2)
    generalize Go.Proofs.Ytjknojfdlpgicaa.RttMath.wait (Go.Proofs.Ytjknojfdlpgicaa.RttMath.smooth (-1) took) (Go.Proofs.Ytjknojfdlpgicaa.RttMath.spread (-1) 0 took) = W at C HO
    generalize Go.Proofs.Ytjknojfdlpgicaa.RttMath.spread (-1) 0 took = p at C HO
    generalize Go.Proofs.Ytjknojfdlpgicaa.RttMath.smooth (-1) took = s at C HO
    go_wp2_with fail
    refine C.out.mono ?_; rintro e w3 ⟨rfl, hT3, hg3⟩
    have HT3 := Lib.hid hT3
    have HB3 := Lib.hid (Go.Proofs.Ytjknojfdlpgicaa.Rtt.gbelow HB1.out (Nat.le_refl _) hg3 HG.out)
    clear C hT3 hg3 HT1 HB1
    go_wp2_with fail
    go_loopw [7] (fun iv wr => ∃ j : Nat, iv = .int .i64 (j : Int) ∧ j ≤ 3 ∧ ∃ W, Hid (Go.Proofs.Ytjknojfdlpgicaa.Rtt.Tm wr g s p W) ∧ Hid (Go.Proofs.Ytjknojfdlpgicaa.RttMath.Ok s p W) ∧ Hid (Below w.heap.size w wr)) (fun i _ => 3 - (intOf i).toNat)
    case atStart => exact ⟨0, rfl, Nat.zero_le _, W, HT3, HO, HB3⟩
    case round =>
      clear HT3 HO HB3
      obtain ⟨j, rfl, hj, W, HT, HO, HB⟩ := hrel
      by_cases hjl : (j : Int) < late
      · have t1 : decide ((j : Int) < late) = true := decide_eq_true hjl
        by_cases hj3 : j < 3
        · have t2 : decide ((j : Int) < 3) = true := decide_eq_true (by omega)
          have C := Lib.hid (Go.Proofs.Ytjknojfdlpgicaa.Rtt.late_any g s p W _ wr HT.out (by have := HO.out.2; omega) (by have := HO.out.2; omega) rfl)
          have HO2 := Lib.hid (Go.Proofs.Ytjknojfdlpgicaa.RttMath.ok_late HO.out)
          generalize Go.Proofs.Ytjknojfdlpgicaa.RttMath.cap (2 * W) = W' at C HO2
          go_wp2_with fail
          refine C.out.mono ?_; rintro e w4 ⟨rfl, hT4, hg4⟩
          have HB4 := Lib.hid (Go.Proofs.Ytjknojfdlpgicaa.Rtt.gbelow HB.out (Nat.le_refl _) hg4 HG.out)
          clear C hg4
          go_wp2_with fail
          go_roundw
          case rel => exact ⟨j + 1, by first | rfl | go_num, by omega, W', Lib.hid hT4, HO2, HB4⟩
          case measure => simp [intOf]; omega
        · have t2 : decide ((j : Int) < 3) = false := decide_eq_false (by omega)
          generalize wr = wa at HT HO HB ⊢
          have hgw := HT.out.lt
          have hWb := HO.out.2
          go_wp2_with fail
          refine (NW.out wa).mono ?_; rintro e w5 ⟨b, rfl, hW5, hb5⟩
          have HW5 := Lib.hid hW5
          have HT5 := Lib.hid (HT.out.below hb5)
          have HB5 := Lib.hid (bcall HB.out hb5)
          obtain ⟨B, hB⟩ : ∃ B, wa.heap.size = B := ⟨_, rfl⟩
          have HBB := Lib.hid (show w.heap.size ≤ B by rw [← hB]; exact HB.out.size)
          rw [hB] at HW5 hgw
          change Hid (Wh (fun k => k < B) w5 b 0 none0) at HW5
          have WA := Lib.hid (Go.Proofs.Ytjknojfdlpgicaa.Rtt.wait_any g s p W w5 HT5.out)
          clear hW5 hb5 HT HB hB
          go_wp2_with fail
          refine WA.out.mono ?_; rintro e w6 ⟨rfl, rfl⟩
          clear WA
          have C := Lib.hid (start_free (fun k => k < B) b 0 none0 1 W w6 HW5.out (by omega) (by omega) rfl)
          by_cases hw4 : 1 ≤ W ∧ W ≤ 400
          · obtain ⟨A, rfl⟩ : ∃ A : Nat, (A : Int) = W := ⟨W.toNat, by omega⟩
            rw [if_pos hw4, val_good (by omega) (by omega), er_0] at C
            go_wp2_with fail
            refine C.out.mono ?_; rintro e w7 ⟨rfl, hW7, hK7⟩
            have HW7 := Lib.hid hW7
            have HT7 := Lib.hid (tm_keep HT5.out hK7 hgw)
            have HB7 := Lib.hid (HB5.out.trans (hK7.below (B := w.heap.size) (fun k hk => Nat.lt_of_lt_of_le hk HBB.out)))
            clear C hW7 hK7 HW5 HT5 HB5
            change Hid (Wh (fun k => k < B) w7 b (0 + 1) (aft (one A) (1 - 1))) at HW7
            go_wp2_with fail
            go_loopw [10] (fun iv wr => ∃ T : Nat, iv = .int .i64 (T : Int) ∧ 1 ≤ T ∧ T ≤ A ∧ Hid (Wh (fun k => k < B) wr b 1 (aft (one A) (T - 1))) ∧ Hid (Go.Proofs.Ytjknojfdlpgicaa.Rtt.Tm wr g s p A) ∧ Hid (Below w.heap.size w wr)) (fun i _ => A - (intOf i).toNat)
            case atStart => exact ⟨1, rfl, by omega, by omega, HW7, HT7, HB7⟩
            case round =>
              clear HW7 HT7 HB7
              obtain ⟨T, rfl, hT, hTA, HW, HT, HB⟩ := hrel
              have C := Lib.hid (tick_any (fun k => k < B) b 1 _ wr HW.out)
              rw [dec_aft, show T - 1 + 1 = T by omega] at C
              by_cases hT0 : T < A
              · have t3 : decide ((T : Int) < (A : Int)) = true := decide_eq_true (by omega)
                rw [one_nil A (T - 1) (by omega)] at C
                go_wp2_with fail
                refine C.out.mono ?_; rintro e w8 ⟨p8, cap8, rfl, hi8, hW8, hK8⟩
                have HW8 := Lib.hid hW8
                have HT8 := Lib.hid (tm_keep HT.out hK8 hgw)
                have HB8 := Lib.hid (HB.out.trans (hK8.below (B := w.heap.size) (fun k hk => Nat.lt_of_lt_of_le hk HBB.out)))
                clear C hi8 hW8 hK8
                go_wp2_with fail
                go_roundw
                case rel => exact ⟨T + 1, by first | rfl | go_num, by omega, by omega, HW8, HT8, HB8⟩
                case measure => simp [intOf]; omega
              · obtain rfl : T = A := by omega
                have t3 : decide ((T : Int) < (T : Int)) = false := decide_eq_false (by omega)
                have WA := Lib.hid (Go.Proofs.Ytjknojfdlpgicaa.Rtt.wait_any g s p T wr HT.out)
                have LA := Lib.hid (Go.Proofs.Ytjknojfdlpgicaa.Rtt.late_any g s p T (2 * T) wr HT.out (by omega) (by omega) (by unfold Go.Proofs.Ytjknojfdlpgicaa.RttMath.cap; rw [if_neg (by omega)]))
                clear C
                go_wp2_with fail
                refine WA.out.mono ?_; rintro e w8 ⟨rfl, rfl⟩
                clear WA
                go_wp2_with fail
                refine LA.out.mono ?_; rintro e w9 ⟨rfl, hT9, hg9⟩
                have HW9 := Lib.hid (HW.out.more hg9 (fun k hk => by injection hk with hk; subst hk; exact hgw) (fun k hk => ⟨.inl hk, Nat.lt_of_lt_of_le (HW.out.xl k hk) hg9.size⟩) (Y := fun k => k < B))
                have HT9 := Lib.hid hT9
                have HB9 := Lib.hid (Go.Proofs.Ytjknojfdlpgicaa.Rtt.gbelow HB.out (Nat.le_refl _) hg9 HG.out)
                clear LA hT9 hg9 HW HT HB
                have C := Lib.hid (tick_any (fun k => k < B) b 1 _ w9 HW9.out)
                rw [one_due T hT] at C
                go_wp2_with fail
                refine C.out.mono ?_; rintro e w10 ⟨p10, cap10, rfl, hi10, hW10, hK10⟩
                have HT10 := Lib.hid (tm_keep HT9.out hK10 hgw)
                have HB10 := Lib.hid (HB9.out.trans (hK10.below (B := w.heap.size) (fun k hk => Nat.lt_of_lt_of_le hk HBB.out)))
                have IA := Lib.hid (ints_any p10 (some ⟨w10.heap.size, 0, none⟩) cap10 1 1 1 [1] [1] (w10.alloc (.cells #[.int .i64 1] 3)) rfl rfl (hi10.below (balloc (brefl w10) _)) (Ints.one w10 1 (by decide)) true rfl)
                clear C hi10 hW10 hK10 HW9 HT9 HB9
                go_wp2_with fail
                refine IA.out.mono ?_; rintro e w11 ⟨rfl, hb11⟩
                have hb12 := (balloc (brefl w10) (.cells #[.int .i64 1] 3)).trans (hb11.mono (by simp))
                have HT11 := Lib.hid (HT10.out.below hb12)
                have HB11 := Lib.hid (bcall HB10.out hb12)
                have WA := Lib.hid (Go.Proofs.Ytjknojfdlpgicaa.Rtt.wait_any g s p (2 * T) w11 HT11.out)
                clear IA hb11 hb12
                go_wp2_with fail
                refine WA.out.mono ?_; rintro e w12 ⟨rfl, rfl⟩
                go_wp2_with fail
                go_ret
                exact ⟨by first | rfl | simp, HB11.out⟩
          · rw [if_neg hw4, er_1] at C
            have t3 : decide (400 < W) = true := decide_eq_true (by omega)
            go_wp2_with fail
            refine C.out.mono ?_; rintro e w7 ⟨rfl, hW7, hK7⟩
            have HB7 := Lib.hid (HB5.out.trans (hK7.below (B := w.heap.size) (fun k hk => Nat.lt_of_lt_of_le hk HBB.out)))
            clear C hW7 hK7
            go_wp2_with fail
            go_ret
            exact ⟨by first | rfl | simp, HB7.out⟩
      · have t1 : decide ((j : Int) < late) = false := decide_eq_false hjl
        generalize wr = wa at HT HO HB ⊢
        have hgw := HT.out.lt
        have hWb := HO.out.2
        go_wp2_with fail
        refine (NW.out wa).mono ?_; rintro e w5 ⟨b, rfl, hW5, hb5⟩
        have HW5 := Lib.hid hW5
        have HT5 := Lib.hid (HT.out.below hb5)
        have HB5 := Lib.hid (bcall HB.out hb5)
        obtain ⟨B, hB⟩ : ∃ B, wa.heap.size = B := ⟨_, rfl⟩
        have HBB := Lib.hid (show w.heap.size ≤ B by rw [← hB]; exact HB.out.size)
        rw [hB] at HW5 hgw
        change Hid (Wh (fun k => k < B) w5 b 0 none0) at HW5
        have WA := Lib.hid (Go.Proofs.Ytjknojfdlpgicaa.Rtt.wait_any g s p W w5 HT5.out)
        clear hW5 hb5 HT HB hB
        go_wp2_with fail
        refine WA.out.mono ?_; rintro e w6 ⟨rfl, rfl⟩
        clear WA
        have C := Lib.hid (start_free (fun k => k < B) b 0 none0 1 W w6 HW5.out (by omega) (by omega) rfl)
        by_cases hw4 : 1 ≤ W ∧ W ≤ 400
        · obtain ⟨A, rfl⟩ : ∃ A : Nat, (A : Int) = W := ⟨W.toNat, by omega⟩
          rw [if_pos hw4, val_good (by omega) (by omega), er_0] at C
          go_wp2_with fail
          refine C.out.mono ?_; rintro e w7 ⟨rfl, hW7, hK7⟩
          have HW7 := Lib.hid hW7
          have HT7 := Lib.hid (tm_keep HT5.out hK7 hgw)
          have HB7 := Lib.hid (HB5.out.trans (hK7.below (B := w.heap.size) (fun k hk => Nat.lt_of_lt_of_le hk HBB.out)))
          clear C hW7 hK7 HW5 HT5 HB5
          change Hid (Wh (fun k => k < B) w7 b (0 + 1) (aft (one A) (1 - 1))) at HW7
          go_wp2_with fail
          go_loopw [10] (fun iv wr => ∃ T : Nat, iv = .int .i64 (T : Int) ∧ 1 ≤ T ∧ T ≤ A ∧ Hid (Wh (fun k => k < B) wr b 1 (aft (one A) (T - 1))) ∧ Hid (Go.Proofs.Ytjknojfdlpgicaa.Rtt.Tm wr g s p A) ∧ Hid (Below w.heap.size w wr)) (fun i _ => A - (intOf i).toNat)
          case atStart => exact ⟨1, rfl, by omega, by omega, HW7, HT7, HB7⟩
          case round =>
            clear HW7 HT7 HB7
            obtain ⟨T, rfl, hT, hTA, HW, HT, HB⟩ := hrel
            have C := Lib.hid (tick_any (fun k => k < B) b 1 _ wr HW.out)
            rw [dec_aft, show T - 1 + 1 = T by omega] at C
            by_cases hT0 : T < A
            · have t3 : decide ((T : Int) < (A : Int)) = true := decide_eq_true (by omega)
              rw [one_nil A (T - 1) (by omega)] at C
              go_wp2_with fail
              refine C.out.mono ?_; rintro e w8 ⟨p8, cap8, rfl, hi8, hW8, hK8⟩
              have HW8 := Lib.hid hW8
              have HT8 := Lib.hid (tm_keep HT.out hK8 hgw)
              have HB8 := Lib.hid (HB.out.trans (hK8.below (B := w.heap.size) (fun k hk => Nat.lt_of_lt_of_le hk HBB.out)))
              clear C hi8 hW8 hK8
              go_wp2_with fail
              go_roundw
              case rel => exact ⟨T + 1, by first | rfl | go_num, by omega, by omega, HW8, HT8, HB8⟩
              case measure => simp [intOf]; omega
            · obtain rfl : T = A := by omega
              have t3 : decide ((T : Int) < (T : Int)) = false := decide_eq_false (by omega)
              have WA := Lib.hid (Go.Proofs.Ytjknojfdlpgicaa.Rtt.wait_any g s p T wr HT.out)
              have LA := Lib.hid (Go.Proofs.Ytjknojfdlpgicaa.Rtt.late_any g s p T (2 * T) wr HT.out (by omega) (by omega) (by unfold Go.Proofs.Ytjknojfdlpgicaa.RttMath.cap; rw [if_neg (by omega)]))
              clear C
              go_wp2_with fail
              refine WA.out.mono ?_; rintro e w8 ⟨rfl, rfl⟩
              clear WA
              go_wp2_with fail
              refine LA.out.mono ?_; rintro e w9 ⟨rfl, hT9, hg9⟩
              have HW9 := Lib.hid (HW.out.more hg9 (fun k hk => by injection hk with hk; subst hk; exact hgw) (fun k hk => ⟨.inl hk, Nat.lt_of_lt_of_le (HW.out.xl k hk) hg9.size⟩) (Y := fun k => k < B))
              have HT9 := Lib.hid hT9
              have HB9 := Lib.hid (Go.Proofs.Ytjknojfdlpgicaa.Rtt.gbelow HB.out (Nat.le_refl _) hg9 HG.out)
              clear LA hT9 hg9 HW HT HB
              have C := Lib.hid (tick_any (fun k => k < B) b 1 _ w9 HW9.out)
              rw [one_due T hT] at C
              go_wp2_with fail
              refine C.out.mono ?_; rintro e w10 ⟨p10, cap10, rfl, hi10, hW10, hK10⟩
              have HT10 := Lib.hid (tm_keep HT9.out hK10 hgw)
              have HB10 := Lib.hid (HB9.out.trans (hK10.below (B := w.heap.size) (fun k hk => Nat.lt_of_lt_of_le hk HBB.out)))
              have IA := Lib.hid (ints_any p10 (some ⟨w10.heap.size, 0, none⟩) cap10 1 1 1 [1] [1] (w10.alloc (.cells #[.int .i64 1] 3)) rfl rfl (hi10.below (balloc (brefl w10) _)) (Ints.one w10 1 (by decide)) true rfl)
              clear C hi10 hW10 hK10 HW9 HT9 HB9
              go_wp2_with fail
              refine IA.out.mono ?_; rintro e w11 ⟨rfl, hb11⟩
              have hb12 := (balloc (brefl w10) (.cells #[.int .i64 1] 3)).trans (hb11.mono (by simp))
              have HT11 := Lib.hid (HT10.out.below hb12)
              have HB11 := Lib.hid (bcall HB10.out hb12)
              have WA := Lib.hid (Go.Proofs.Ytjknojfdlpgicaa.Rtt.wait_any g s p (2 * T) w11 HT11.out)
              clear IA hb11 hb12
              go_wp2_with fail
              refine WA.out.mono ?_; rintro e w12 ⟨rfl, rfl⟩
              go_wp2_with fail
              go_ret
              exact ⟨by first | rfl | simp, HB11.out⟩
        · rw [if_neg hw4, er_1] at C
          have t3 : decide (400 < W) = true := decide_eq_true (by omega)
          go_wp2_with fail
          refine C.out.mono ?_; rintro e w7 ⟨rfl, hW7, hK7⟩
          have HB7 := Lib.hid (HB5.out.trans (hK7.below (B := w.heap.size) (fun k hk => Nat.lt_of_lt_of_le hk HBB.out)))
          clear C hW7 hK7
          go_wp2_with fail
          go_ret
          exact ⟨by first | rfl | simp, HB7.out⟩
  · have C := Lib.hid (Go.Proofs.Ytjknojfdlpgicaa.Rtt.take_bad g took w2 hk)
    rw [Go.Proofs.Ytjknojfdlpgicaa.Rtt.er_1] at C
    have IN := Lib.hid (fun W => tin_no took 0 100000 W hk)
    go_wp2_with fail
    refine C.out.mono ?_; rintro e w3 ⟨rfl, rfl⟩
    go_wp2_with fail
    refine (IN.out _).mono ?_; rintro e w3 ⟨rfl, rfl⟩
    go_wp2_with fail
    go_ret
    exact ⟨rfl, HB1.out⟩

theorem reads : Try.f4.params.toList.all (fun t => Try.prog.readableRec t && decide (t < Try.prog.types.size)) = true := by kernel_rfl

theorem contract (H : Type) (enc : TypeId × Value → H) (W : World) (base : Nat) (args : Array Value) (ds gs : List (DataW H)) (before : List MemPlace)
    (hval : ∀ (j : Nat) t v, Try.f4.params[j]? = some t → args[j]? = some v → Value.okWide Try.prog W .any base t v)
    (hW : DataW.Whole enc Try.prog Try.f4.params.toList Rows.topAlarmsSpec.vars false W args.toList ds gs before) :
    Calls Try.prog 4 args W fun e W' => ∃ v, e = .returned v ∧ Rows.topAlarmsSpec.post enc Try.prog Try.f4 false true false false W args v W' := by
  have hW' := hW
  obtain ⟨p, q, hA0, hV, rfl, hfz, hnd⟩ := hW
  have hA : DataW.TrodAll enc Try.prog W 0 (fun _ => true) true Try.f4.params.toList args.toList ds p := hA0
  have hlt := hA.lt
  rw [Try.params4] at hA hval
  obtain ⟨v0, vs0, d0, ds0, p0, q0, hargs, rfl, rfl, h0, r0⟩ := trodAll_cons hA
  obtain ⟨v1, vs1, d1, ds1, p1, q1, hvs1, rfl, rfl, h1, r1⟩ := trodAll_cons r0
  obtain ⟨hvsn, rfl, rfl⟩ := trodAll_nil r1
  simp only [hvsn, hvs1] at hargs
  obtain rfl : args = #[v0, v1] := by cases args; simp_all
  obtain ⟨rfl, rfl⟩ := trodVars_none hV
  clear hA0
  obtain ⟨a0, rfl, rfl, rfl, w0⟩ := open_int Try.underlying3 (hval 0 3 v0 rfl rfl) h0
  have b0 := bounds_int w0
  obtain ⟨a1, rfl, rfl, rfl, w1⟩ := open_int Try.underlying3 (hval 1 3 v1 rfl rfl) h1
  have b1 := bounds_int w1
  exact law_post 4 laid reads rfl Try.underlying4 rfl hW' ⟨rfl, rfl, rfl⟩ (core a0 a1 W b0 b1)

set_option maxRecDepth 100000 in
theorem lifted (os : Os) (started : os.Started) (H : Type) (enc : TypeId × Value → H) :
    ReturnsInHanded {} Try.checked os 4 .any (Rows.topAlarmsSpec.pre6 enc Try.prog Try.f4 Rows.topAlarmsRow.domain false) (Rows.topAlarmsSpec.post enc Try.prog Try.f4 false true false false) := by
  refine returnsInHanded_of_change (C := Try.checked) own started (by kernel_rfl) Try.func4
    (ChangeSpec.witness6 (enc := enc) (C := Try.checked) false ⟨#[], #[.int .i64 0, .int .i64 0], []⟩ 8 (by kernel_rfl) (by kernel_rfl) (by kernel_rfl) (by kernel_rfl)) ?_
  intro W base args ds gs before hval hW _ _
  exact contract H enc W base args ds gs before hval hW

theorem proved : Rows.TopAlarmsSaid :=
  OpenClaim.holds_of_wide 4 Try.f4 rfl rfl rfl rfl rfl rfl rfl ⟨rfl, rfl, rfl, rfl, rfl⟩ rfl rfl rfl rfl rfl (by kernel_rfl) Try.func4 (by kernel_rfl)
    (of_decide_eq_true (by kernel_rfl)) (by unfold Func.isWrapper; first | (rw [if_pos (by decide +kernel)]; kernel_rfl) | (rw [if_neg (by decide +kernel)]; exact ⟨rfl, rfl⟩))
    (fun os started H enc _ => lifted os started H enc)
