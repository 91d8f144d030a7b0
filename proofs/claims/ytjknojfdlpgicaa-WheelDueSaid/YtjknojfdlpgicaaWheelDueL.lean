/- Each timer expires at the tick that it was started for, once: the law returns true for every input. No condition. -/
import Derived.Test.YtjknojfdlpgicaaWheelLaw
namespace Go.Proofs.Ytjknojfdlpgicaa.WheelDueL
open Go.ChangeShapes Go.WideShapes Go.ChangeAt Go.RowKit Go.Proofs.Ytjknojfdlpgicaa.Kit Go.Proofs.Ytjknojfdlpgicaa.App Go.Proofs.Ytjknojfdlpgicaa.MapZ Go.Proofs.Ytjknojfdlpgicaa.WheelMath Go.Proofs.Ytjknojfdlpgicaa.Wheel
set_option linter.unusedVariables false
set_option maxRecDepth 20000

abbrev Law (ahead wait : Int) (p : Option Addr) (cap n : Nat) (w : World) : Prop := Calls Try.prog 3 #[.int .i64 ahead, .int .i64 wait, .slice p n cap] w fun e w' => e = .returned (.bool true) ∧ Below w.heap.size w w'
/-- The ticks left of the first K timers, as they were started. -/
def ini (l : List Int) (K : Nat) : Int → Nat := fun i => if 0 ≤ i ∧ i < (K : Int) then val (l[i.toNat]?.getD 0) else 0
theorem ini_zero (l : List Int) : ini l 0 = none0 := by funext i; unfold ini none0; rw [if_neg (by omega)]
theorem ini_free (l : List Int) (k : Nat) {i : Int} (h : (k : Int) ≤ i) : ini l k i = 0 := by unfold ini; rw [if_neg (by omega)]
theorem ini_at (l : List Int) {k j : Nat} (h : j < k) : ini l k (j : Int) = val (l[j]?.getD 0) := by unfold ini; rw [if_pos (by omega), Int.toNat_natCast]
theorem ini_next (l : List Int) (k : Nat) : updZ (ini l k) (k : Int) (val (l[k]?.getD 0)) = ini l (k + 1) := by
  funext i
  by_cases e : i = (k : Int)
  · subst e; rw [updZ_same, ini_at l (Nat.lt_succ_self k)]
  · rw [updZ_other _ _ e]
    unfold ini
    by_cases h : 0 ≤ i ∧ i < (k : Int)
    · rw [if_pos h, if_pos (by omega)]
    · rw [if_neg h, if_neg (by omega)]
theorem last_is (f : Int → Nat) (A T : Nat) (h1 : 1 ≤ T) : ((T : Int) == (A : Int)) = decide ((19 : Int) ∈ dueL (aft (updZ f 19 A) (T - 1))) := by
  rw [Bool.eq_iff_iff, beq_iff_eq, decide_eq_true_iff, due_in (by omega) (by omega)]
  unfold aft
  rw [updZ_same]
  omega
theorem other_is (l : List Int) (K A T j : Nat) (h1 : 1 ≤ T) (h4 : T ≤ 400) (hj : j < K) (hK : K ≤ 19) : (l[j]?.getD 0 == (T : Int)) = decide ((j : Int) ∈ dueL (aft (updZ (ini l K) 19 A) (T - 1))) := by
  rw [Bool.eq_iff_iff, beq_iff_eq, decide_eq_true_iff, due_in (by omega) (by omega)]
  unfold aft
  rw [updZ_other _ _ (by omega), ini_at l hj]
  have := val_one (l[j]?.getD 0) T h1 h4
  rw [← this]
  omega
theorem end_is (f : Int → Nat) (A : Nat) (h : A ≤ 400) : aft (updZ f 19 A) 400 19 = 0 := by unfold aft; rw [updZ_same]; omega
set_option maxHeartbeats 4000000 in
theorem core (ahead wait : Int) (p0 : Option Addr) (cap n : Nat) (l : List Int) (w : World) (hn : n = l.length) (hi : Ints w p0 cap l) (ha0 : -9223372036854775808 ≤ ahead ∧ ahead ≤ 9223372036854775807) (hw0 : -9223372036854775808 ≤ wait ∧ wait ≤ 9223372036854775807) : Law ahead wait p0 cap n w := by
  have hcap := hi.len_le
  rw [← hn] at hcap
  have HI := Lib.hid hi
  have HN := Lib.hid hn
  have FA := Lib.hid (fact_any w)
  have NW := Lib.hid (fun W => new_any W)
  have TK := Lib.hid (fun b c left W H => tick_any (fun k => k < w.heap.size) b c left W H)
  have SF := Lib.hid (fun b c left i a W H hc h0 hl => start_free (fun k => k < w.heap.size) b c left i a W H hc h0 hl)
  have LF := Lib.hid (fun b c left W H => left_any (fun k => k < w.heap.size) b c left 19 W H (by decide))
  clear hi hn
  unfold Law
  go_enter Try.func3, Try.ntmps3
  go_wp2_with fail
  refine FA.out.mono ?_; rintro e w1 ⟨rfl, hb1⟩
  clear FA
  go_wp2_with fail
  refine (NW.out w1).mono ?_; rintro e w2 ⟨b, rfl, hW2, hb2⟩
  have HW2 := Lib.hid (hW2.less (Y := fun k => k < w.heap.size) (fun k hk => Nat.lt_of_lt_of_le hk hb1.size))
  have HB2 := Lib.hid (bcall hb1 hb2)
  clear hb1 hb2 hW2 NW
  change Hid (Wh (fun k => k < w.heap.size) w2 b 0 none0) at HW2
  go_wp2_with fail
  go_loopw [9] (fun iv wr => ∃ j : Nat, iv = .int .i64 (j : Int) ∧ j ≤ 900 ∧ Hid (Wh (fun k => k < w.heap.size) wr b 0 none0) ∧ Hid (Below w.heap.size w wr)) (fun i _ => 900 - (intOf i).toNat)
  case atStart => exact ⟨0, rfl, Nat.zero_le _, HW2, HB2⟩
  case round =>
    obtain ⟨j, rfl, hj, HW, HB⟩ := hrel
    clear HW2 HB2
    by_cases hjw : (j : Int) < wait
    · have t1 : decide ((j : Int) < wait) = true := decide_eq_true hjw
      by_cases hj9 : j < 900
      · have t2 : decide ((j : Int) < 900) = true := decide_eq_true (by omega)
        have C := Lib.hid (TK.out b 0 none0 wr HW.out)
        rw [show dueL none0 = [] from rfl, dec_none] at C
        go_wp2_with fail
        refine C.out.mono ?_; rintro e w3 ⟨p3, cap3, rfl, hi3, hW3, hK3⟩
        have HW3 := Lib.hid hW3
        have HB3 := Lib.hid (HB.out.trans (hK3.below (B := w.heap.size) (fun k hk => hk)))
        clear C hi3 hW3 hK3
        go_wp2_with fail
        go_roundw
        case rel => exact ⟨j + 1, by first | rfl | go_num, by omega, HW3, HB3⟩
        case measure => simp [intOf]; omega
      · have t2 : decide ((j : Int) < 900) = false := decide_eq_false (by omega)
        generalize wr = wa at HW HB ⊢
        go_wp2_with fail
        try clear t2
        clear t1 hj hjw
        go_loopw [10] (fun iv wr => ∃ j : Nat, iv = .int .i64 (j : Int) ∧ j ≤ 19 ∧ j ≤ n ∧ Hid (Wh (fun k => k < w.heap.size) wr b j (ini l j)) ∧ Hid (Below w.heap.size w wr)) (fun i _ => 19 - (intOf i).toNat)
        case atStart => exact ⟨0, rfl, Nat.zero_le _, Nat.zero_le _, by rw [ini_zero]; exact HW, HB⟩
        case round =>
          clear HW HB
          obtain ⟨K, rfl, hK, hKn, HW, HB⟩ := hrel
          by_cases hKn2 : K < n
          · have t1 : decide ((K : Int) < (n : Int)) = true := decide_eq_true (by omega)
            by_cases hK9 : K < 19
            · have t2 : decide ((K : Int) < 19) = true := decide_eq_true (by omega)
              obtain ⟨bb, off, rfl, hb, hcs⟩ := HI.out.2.2.2 (by rw [← HN.out]; omega)
              have hc := (HB.out.cell (p := ⟨bb, off + K, none⟩) hb).trans (hcs K (by rw [← HN.out]; omega))
              have C := Lib.hid (SF.out b K (ini l K) (K : Int) (l[K]?.getD 0) wr HW.out (by omega) (by omega) (ini_free l K (Int.le_refl _)))
              rw [ini_next] at C
              generalize l[K]?.getD 0 = x at hc C
              clear hcs hb
              go_wp2_with fail
              refine C.out.mono ?_; rintro e w3 ⟨rfl, hW3, hK3⟩
              have HW3 := Lib.hid hW3
              have HB3 := Lib.hid (HB.out.trans (hK3.below (B := w.heap.size) (fun k hk => hk)))
              clear C hW3 hK3
              go_wp2_with fail
              go_roundw
              case rel => exact ⟨K + 1, by first | rfl | go_num, by omega, by omega, HW3, HB3⟩
              case measure => simp [intOf]; omega
            · have t2 : decide ((K : Int) < 19) = false := decide_eq_false (by omega)
              have hKK : K = n ∨ K = 19 := by omega
              generalize wr = wa at HW HB ⊢
              have C := Lib.hid (SF.out b K (ini l K) 19 ahead wa HW.out (by omega) (by omega) (ini_free l K (by omega)))
              by_cases ha : 1 ≤ ahead ∧ ahead ≤ 400
              · obtain ⟨A, rfl⟩ : ∃ A : Nat, (A : Int) = ahead := ⟨ahead.toNat, by omega⟩
                rw [if_pos ha, val_good (by omega) (by omega), er_0] at C
                go_wp2_with fail
                refine C.out.mono ?_; rintro e w4 ⟨rfl, hW4, hK4⟩
                have HW4 := Lib.hid hW4
                have HB4 := Lib.hid (HB.out.trans (hK4.below (B := w.heap.size) (fun k hk => hk)))
                clear C hW4 hK4 HW HB
                try clear t1
                try clear t2
                go_wp2_with fail
                go_loopw [11] (fun iv wr => ∃ T : Nat, iv = .int .i64 (T : Int) ∧ 1 ≤ T ∧ T ≤ 401 ∧ Hid (Wh (fun k => k < w.heap.size) wr b (K + 1) (aft (updZ (ini l K) 19 A) (T - 1))) ∧ Hid (Below w.heap.size w wr)) (fun i _ => 401 - (intOf i).toNat)
                case atStart => exact ⟨1, rfl, by omega, by omega, HW4, HB4⟩
                case round =>
                  clear HW4 HB4
                  obtain ⟨T, rfl, hT, hT4, HW, HB⟩ := hrel
                  by_cases hT0 : T ≤ 400
                  · have t3 : decide ((T : Int) ≤ 400) = true := decide_eq_true (by omega)
                    have C := Lib.hid (TK.out b (K + 1) _ wr HW.out)
                    rw [dec_aft, show T - 1 + 1 = T by omega] at C
                    have H19 := last_is (ini l K) A T hT
                    have HOT := Lib.hid (fun j hj => other_is l K A T j hT hT0 hj hK)
                    generalize dueL (aft (updZ (ini l K) 19 A) (T - 1)) = d at C H19 HOT
                    go_wp2_with fail
                    refine C.out.mono ?_; rintro e w5 ⟨p5, cap5, rfl, hi5, hW5, hK5⟩
                    have HW5 := Lib.hid hW5
                    have HI5 := Lib.hid hi5
                    have HB5 := Lib.hid (HB.out.trans (hK5.below (B := w.heap.size) (fun k hk => hk)))
                    clear hW5 hi5 hK5 HW HB C
                    obtain ⟨R, hR⟩ : ∃ R, decide ((19 : Int) ∈ d) = R := ⟨_, rfl⟩
                    rw [hR] at H19
                    have HA := Lib.hid (has_any p5 cap5 d.length d 19 w5 rfl HI5.out R hR.symm)
                    have HHA := Lib.hid (fun x W (hi : Ints W p5 cap5 d) R hR => has_any p5 cap5 d.length d x W rfl hi R hR)
                    have hdl := HI5.out.len_le
                    generalize d.length = dn at HA HHA hdl
                    have t4 : (R != R) = false := by cases R <;> rfl
                    clear hR
                    go_wp2_with fail
                    refine HA.out.mono ?_; rintro e w6 ⟨rfl, rfl⟩
                    clear HA
                    go_wp2_with fail
                    go_loopw [13] (fun iv wr => ∃ j : Nat, iv = .int .i64 (j : Int) ∧ j ≤ K ∧ Hid (∃ m, wr = w6.drewN m)) (fun i _ => K - (intOf i).toNat)
                    case atStart => exact ⟨0, rfl, Nat.zero_le _, Lib.hid ⟨0, rfl⟩⟩
                    case round =>
                      obtain ⟨j, rfl, hj, HM⟩ := hrel
                      have hBr : Below w6.heap.size w6 wr := by
                        obtain ⟨m, e⟩ := HM.out
                        rw [e]
                        exact below_drewN (brefl w6) m
                      have HIR := Lib.hid (HI5.out.below hBr)
                      have HWR : Hid (Wh (fun k => k < w.heap.size) wr b (K + 1) (aft (updZ (ini l K) 19 A) T)) := Lib.hid (HW5.out.below hBr)
                      have HBR := Lib.hid (bcall HB5.out hBr)
                      clear hBr
                      by_cases hjK : j < K
                      · have t5 : decide ((j : Int) < (n : Int)) = true := decide_eq_true (by omega)
                        have t6 : decide ((j : Int) < 19) = true := decide_eq_true (by omega)
                        obtain ⟨bb, off, rfl, hb, hcs⟩ := HI.out.2.2.2 (by rw [← HN.out]; omega)
                        have hc := (HBR.out.cell (p := ⟨bb, off + j, none⟩) hb).trans (hcs j (by rw [← HN.out]; omega))
                        have H1 := HOT.out j hjK
                        obtain ⟨R2, hR2⟩ : ∃ R, decide ((j : Int) ∈ d) = R := ⟨_, rfl⟩
                        rw [hR2] at H1
                        have HA := Lib.hid (fun k => HHA.out (j : Int) (wr.drewN k) (HIR.out.below (below_drewN (brefl wr) k)) R2 hR2.symm)
                        have hj7 : (j : Int) < (n : Int) := by omega
                        generalize l[j]?.getD 0 = x at hc H1
                        have t7 : (R2 != R2) = false := by cases R2 <;> rfl
                        clear hcs hb hR2
                        go_wp2_with fail
                        go_quiet ((go_at_call 10; refine Calls.quiet_of_same (HA.out _)))
                        go_wp2_with fail
                        go_roundw
                        case rel => exact ⟨j + 1, by first | rfl | go_num, by omega, Lib.hid (by obtain ⟨m, e⟩ := HM.out; exact ⟨m + nq, by rw [e, World.drewN_drewN]⟩)⟩
                        case measure => simp [intOf]; omega
                      · obtain rfl : j = K := by omega
                        by_cases hjn : j < n
                        · have t5 : decide ((j : Int) < (n : Int)) = true := decide_eq_true (by omega)
                          have t6 : decide ((j : Int) < 19) = false := decide_eq_false (by omega)
                          go_wp2_with fail
                          go_roundw
                          case rel => exact ⟨T + 1, by first | rfl | go_num, by omega, by omega, HWR, HBR⟩
                          case measure => simp [intOf]; omega
                        · exact absurd hKn2 hjn
                  · obtain rfl : T = 401 := by omega
                    have t3 : decide (((401 : Nat) : Int) ≤ 400) = false := by decide
                    have C := Lib.hid (LF.out b (K + 1) _ wr HW.out)
                    rw [if_pos (end_is _ A (by omega))] at C
                    go_wp2_with fail
                    refine C.out.mono ?_; rintro e w5 ⟨rfl, m5, rfl⟩
                    clear C
                    go_wp2_with fail
                    go_ret
                    exact ⟨by first | rfl | simp, Go.Proofs.Ytjknojfdlpgicaa.Rtt.bdrewN HB.out m5⟩
              · rw [if_neg ha, er_1] at C
                have IN := Lib.hid (fun W => Go.Proofs.Ytjknojfdlpgicaa.Rtt.in_any ahead 1 400 W false (by symm; rw [Bool.and_eq_false_iff, decide_eq_false_iff_not, decide_eq_false_iff_not]; omega))
                go_wp2_with fail
                refine C.out.mono ?_; rintro e w4 ⟨rfl, hW4, hK4⟩
                have HB4 := Lib.hid (HB.out.trans (hK4.below (B := w.heap.size) (fun k hk => hk)))
                clear C hW4 hK4 HW HB
                go_wp2_with fail
                refine (IN.out _).mono ?_; rintro e w5 ⟨rfl, rfl⟩
                go_wp2_with fail
                go_ret
                exact ⟨rfl, HB4.out⟩
          · have t1 : decide ((K : Int) < (n : Int)) = false := decide_eq_false (by omega)
            have hKK : K = n ∨ K = 19 := by omega
            generalize wr = wa at HW HB ⊢
            have C := Lib.hid (SF.out b K (ini l K) 19 ahead wa HW.out (by omega) (by omega) (ini_free l K (by omega)))
            by_cases ha : 1 ≤ ahead ∧ ahead ≤ 400
            · obtain ⟨A, rfl⟩ : ∃ A : Nat, (A : Int) = ahead := ⟨ahead.toNat, by omega⟩
              rw [if_pos ha, val_good (by omega) (by omega), er_0] at C
              go_wp2_with fail
              refine C.out.mono ?_; rintro e w4 ⟨rfl, hW4, hK4⟩
              have HW4 := Lib.hid hW4
              have HB4 := Lib.hid (HB.out.trans (hK4.below (B := w.heap.size) (fun k hk => hk)))
              clear C hW4 hK4 HW HB
              try clear t1
              try clear t2
              go_wp2_with fail
              go_loopw [11] (fun iv wr => ∃ T : Nat, iv = .int .i64 (T : Int) ∧ 1 ≤ T ∧ T ≤ 401 ∧ Hid (Wh (fun k => k < w.heap.size) wr b (K + 1) (aft (updZ (ini l K) 19 A) (T - 1))) ∧ Hid (Below w.heap.size w wr)) (fun i _ => 401 - (intOf i).toNat)
              case atStart => exact ⟨1, rfl, by omega, by omega, HW4, HB4⟩
              case round =>
                clear HW4 HB4
                obtain ⟨T, rfl, hT, hT4, HW, HB⟩ := hrel
                by_cases hT0 : T ≤ 400
                · have t3 : decide ((T : Int) ≤ 400) = true := decide_eq_true (by omega)
                  have C := Lib.hid (TK.out b (K + 1) _ wr HW.out)
                  rw [dec_aft, show T - 1 + 1 = T by omega] at C
                  have H19 := last_is (ini l K) A T hT
                  have HOT := Lib.hid (fun j hj => other_is l K A T j hT hT0 hj hK)
                  generalize dueL (aft (updZ (ini l K) 19 A) (T - 1)) = d at C H19 HOT
                  go_wp2_with fail
                  refine C.out.mono ?_; rintro e w5 ⟨p5, cap5, rfl, hi5, hW5, hK5⟩
                  have HW5 := Lib.hid hW5
                  have HI5 := Lib.hid hi5
                  have HB5 := Lib.hid (HB.out.trans (hK5.below (B := w.heap.size) (fun k hk => hk)))
                  clear hW5 hi5 hK5 HW HB C
                  obtain ⟨R, hR⟩ : ∃ R, decide ((19 : Int) ∈ d) = R := ⟨_, rfl⟩
                  rw [hR] at H19
                  have HA := Lib.hid (has_any p5 cap5 d.length d 19 w5 rfl HI5.out R hR.symm)
                  have HHA := Lib.hid (fun x W (hi : Ints W p5 cap5 d) R hR => has_any p5 cap5 d.length d x W rfl hi R hR)
                  have hdl := HI5.out.len_le
                  generalize d.length = dn at HA HHA hdl
                  have t4 : (R != R) = false := by cases R <;> rfl
                  clear hR
                  go_wp2_with fail
                  refine HA.out.mono ?_; rintro e w6 ⟨rfl, rfl⟩
                  clear HA
                  go_wp2_with fail
                  go_loopw [13] (fun iv wr => ∃ j : Nat, iv = .int .i64 (j : Int) ∧ j ≤ K ∧ Hid (∃ m, wr = w6.drewN m)) (fun i _ => K - (intOf i).toNat)
                  case atStart => exact ⟨0, rfl, Nat.zero_le _, Lib.hid ⟨0, rfl⟩⟩
                  case round =>
                    obtain ⟨j, rfl, hj, HM⟩ := hrel
                    have hBr : Below w6.heap.size w6 wr := by
                      obtain ⟨m, e⟩ := HM.out
                      rw [e]
                      exact below_drewN (brefl w6) m
                    have HIR := Lib.hid (HI5.out.below hBr)
                    have HWR : Hid (Wh (fun k => k < w.heap.size) wr b (K + 1) (aft (updZ (ini l K) 19 A) T)) := Lib.hid (HW5.out.below hBr)
                    have HBR := Lib.hid (bcall HB5.out hBr)
                    clear hBr
                    by_cases hjK : j < K
                    · have t5 : decide ((j : Int) < (n : Int)) = true := decide_eq_true (by omega)
                      have t6 : decide ((j : Int) < 19) = true := decide_eq_true (by omega)
                      obtain ⟨bb, off, rfl, hb, hcs⟩ := HI.out.2.2.2 (by rw [← HN.out]; omega)
                      have hc := (HBR.out.cell (p := ⟨bb, off + j, none⟩) hb).trans (hcs j (by rw [← HN.out]; omega))
                      have H1 := HOT.out j hjK
                      obtain ⟨R2, hR2⟩ : ∃ R, decide ((j : Int) ∈ d) = R := ⟨_, rfl⟩
                      rw [hR2] at H1
                      have HA := Lib.hid (fun k => HHA.out (j : Int) (wr.drewN k) (HIR.out.below (below_drewN (brefl wr) k)) R2 hR2.symm)
                      have hj7 : (j : Int) < (n : Int) := by omega
                      generalize l[j]?.getD 0 = x at hc H1
                      have t7 : (R2 != R2) = false := by cases R2 <;> rfl
                      clear hcs hb hR2
                      go_wp2_with fail
                      go_quiet ((go_at_call 10; refine Calls.quiet_of_same (HA.out _)))
                      go_wp2_with fail
                      go_roundw
                      case rel => exact ⟨j + 1, by first | rfl | go_num, by omega, Lib.hid (by obtain ⟨m, e⟩ := HM.out; exact ⟨m + nq, by rw [e, World.drewN_drewN]⟩)⟩
                      case measure => simp [intOf]; omega
                    · obtain rfl : j = K := by omega
                      by_cases hjn : j < n
                      · have t5 : decide ((j : Int) < (n : Int)) = true := decide_eq_true (by omega)
                        have t6 : decide ((j : Int) < 19) = false := decide_eq_false (by omega)
                        go_wp2_with fail
                        go_roundw
                        case rel => exact ⟨T + 1, by first | rfl | go_num, by omega, by omega, HWR, HBR⟩
                        case measure => simp [intOf]; omega
                      · have t5 : decide ((j : Int) < (n : Int)) = false := decide_eq_false (by omega)
                        go_wp2_with fail
                        go_roundw
                        case rel => exact ⟨T + 1, by first | rfl | go_num, by omega, by omega, HWR, HBR⟩
                        case measure => simp [intOf]; omega
                · obtain rfl : T = 401 := by omega
                  have t3 : decide (((401 : Nat) : Int) ≤ 400) = false := by decide
                  have C := Lib.hid (LF.out b (K + 1) _ wr HW.out)
                  rw [if_pos (end_is _ A (by omega))] at C
                  go_wp2_with fail
                  refine C.out.mono ?_; rintro e w5 ⟨rfl, m5, rfl⟩
                  clear C
                  go_wp2_with fail
                  go_ret
                  exact ⟨by first | rfl | simp, Go.Proofs.Ytjknojfdlpgicaa.Rtt.bdrewN HB.out m5⟩
            · rw [if_neg ha, er_1] at C
              have IN := Lib.hid (fun W => Go.Proofs.Ytjknojfdlpgicaa.Rtt.in_any ahead 1 400 W false (by symm; rw [Bool.and_eq_false_iff, decide_eq_false_iff_not, decide_eq_false_iff_not]; omega))
              go_wp2_with fail
              refine C.out.mono ?_; rintro e w4 ⟨rfl, hW4, hK4⟩
              have HB4 := Lib.hid (HB.out.trans (hK4.below (B := w.heap.size) (fun k hk => hk)))
              clear C hW4 hK4 HW HB
              go_wp2_with fail
              refine (IN.out _).mono ?_; rintro e w5 ⟨rfl, rfl⟩
              go_wp2_with fail
              go_ret
              exact ⟨rfl, HB4.out⟩
    · have t1 : decide ((j : Int) < wait) = false := decide_eq_false hjw
      generalize wr = wa at HW HB ⊢
      go_wp2_with fail
      try clear t2
      clear t1 hj hjw
      go_loopw [10] (fun iv wr => ∃ j : Nat, iv = .int .i64 (j : Int) ∧ j ≤ 19 ∧ j ≤ n ∧ Hid (Wh (fun k => k < w.heap.size) wr b j (ini l j)) ∧ Hid (Below w.heap.size w wr)) (fun i _ => 19 - (intOf i).toNat)
      case atStart => exact ⟨0, rfl, Nat.zero_le _, Nat.zero_le _, by rw [ini_zero]; exact HW, HB⟩
      case round =>
        clear HW HB
        obtain ⟨K, rfl, hK, hKn, HW, HB⟩ := hrel
        by_cases hKn2 : K < n
        · have t1 : decide ((K : Int) < (n : Int)) = true := decide_eq_true (by omega)
          by_cases hK9 : K < 19
          · have t2 : decide ((K : Int) < 19) = true := decide_eq_true (by omega)
            obtain ⟨bb, off, rfl, hb, hcs⟩ := HI.out.2.2.2 (by rw [← HN.out]; omega)
            have hc := (HB.out.cell (p := ⟨bb, off + K, none⟩) hb).trans (hcs K (by rw [← HN.out]; omega))
            have C := Lib.hid (SF.out b K (ini l K) (K : Int) (l[K]?.getD 0) wr HW.out (by omega) (by omega) (ini_free l K (Int.le_refl _)))
            rw [ini_next] at C
            generalize l[K]?.getD 0 = x at hc C
            clear hcs hb
            go_wp2_with fail
            refine C.out.mono ?_; rintro e w3 ⟨rfl, hW3, hK3⟩
            have HW3 := Lib.hid hW3
            have HB3 := Lib.hid (HB.out.trans (hK3.below (B := w.heap.size) (fun k hk => hk)))
            clear C hW3 hK3
            go_wp2_with fail
            go_roundw
            case rel => exact ⟨K + 1, by first | rfl | go_num, by omega, by omega, HW3, HB3⟩
            case measure => simp [intOf]; omega
          · have t2 : decide ((K : Int) < 19) = false := decide_eq_false (by omega)
            have hKK : K = n ∨ K = 19 := by omega
            generalize wr = wa at HW HB ⊢
            have C := Lib.hid (SF.out b K (ini l K) 19 ahead wa HW.out (by omega) (by omega) (ini_free l K (by omega)))
            by_cases ha : 1 ≤ ahead ∧ ahead ≤ 400
            · obtain ⟨A, rfl⟩ : ∃ A : Nat, (A : Int) = ahead := ⟨ahead.toNat, by omega⟩
              rw [if_pos ha, val_good (by omega) (by omega), er_0] at C
              go_wp2_with fail
              refine C.out.mono ?_; rintro e w4 ⟨rfl, hW4, hK4⟩
              have HW4 := Lib.hid hW4
              have HB4 := Lib.hid (HB.out.trans (hK4.below (B := w.heap.size) (fun k hk => hk)))
              clear C hW4 hK4 HW HB
              try clear t1
              try clear t2
              go_wp2_with fail
              go_loopw [11] (fun iv wr => ∃ T : Nat, iv = .int .i64 (T : Int) ∧ 1 ≤ T ∧ T ≤ 401 ∧ Hid (Wh (fun k => k < w.heap.size) wr b (K + 1) (aft (updZ (ini l K) 19 A) (T - 1))) ∧ Hid (Below w.heap.size w wr)) (fun i _ => 401 - (intOf i).toNat)
              case atStart => exact ⟨1, rfl, by omega, by omega, HW4, HB4⟩
              case round =>
                clear HW4 HB4
                obtain ⟨T, rfl, hT, hT4, HW, HB⟩ := hrel
                by_cases hT0 : T ≤ 400
                · have t3 : decide ((T : Int) ≤ 400) = true := decide_eq_true (by omega)
                  have C := Lib.hid (TK.out b (K + 1) _ wr HW.out)
                  rw [dec_aft, show T - 1 + 1 = T by omega] at C
                  have H19 := last_is (ini l K) A T hT
                  have HOT := Lib.hid (fun j hj => other_is l K A T j hT hT0 hj hK)
                  generalize dueL (aft (updZ (ini l K) 19 A) (T - 1)) = d at C H19 HOT
                  go_wp2_with fail
                  refine C.out.mono ?_; rintro e w5 ⟨p5, cap5, rfl, hi5, hW5, hK5⟩
                  have HW5 := Lib.hid hW5
                  have HI5 := Lib.hid hi5
                  have HB5 := Lib.hid (HB.out.trans (hK5.below (B := w.heap.size) (fun k hk => hk)))
                  clear hW5 hi5 hK5 HW HB C
                  obtain ⟨R, hR⟩ : ∃ R, decide ((19 : Int) ∈ d) = R := ⟨_, rfl⟩
                  rw [hR] at H19
                  have HA := Lib.hid (has_any p5 cap5 d.length d 19 w5 rfl HI5.out R hR.symm)
                  have HHA := Lib.hid (fun x W (hi : Ints W p5 cap5 d) R hR => has_any p5 cap5 d.length d x W rfl hi R hR)
                  have hdl := HI5.out.len_le
                  generalize d.length = dn at HA HHA hdl
                  have t4 : (R != R) = false := by cases R <;> rfl
                  clear hR
                  go_wp2_with fail
                  refine HA.out.mono ?_; rintro e w6 ⟨rfl, rfl⟩
                  clear HA
                  go_wp2_with fail
                  go_loopw [13] (fun iv wr => ∃ j : Nat, iv = .int .i64 (j : Int) ∧ j ≤ K ∧ Hid (∃ m, wr = w6.drewN m)) (fun i _ => K - (intOf i).toNat)
                  case atStart => exact ⟨0, rfl, Nat.zero_le _, Lib.hid ⟨0, rfl⟩⟩
                  case round =>
                    obtain ⟨j, rfl, hj, HM⟩ := hrel
                    have hBr : Below w6.heap.size w6 wr := by
                      obtain ⟨m, e⟩ := HM.out
                      rw [e]
                      exact below_drewN (brefl w6) m
                    have HIR := Lib.hid (HI5.out.below hBr)
                    have HWR : Hid (Wh (fun k => k < w.heap.size) wr b (K + 1) (aft (updZ (ini l K) 19 A) T)) := Lib.hid (HW5.out.below hBr)
                    have HBR := Lib.hid (bcall HB5.out hBr)
                    clear hBr
                    by_cases hjK : j < K
                    · have t5 : decide ((j : Int) < (n : Int)) = true := decide_eq_true (by omega)
                      have t6 : decide ((j : Int) < 19) = true := decide_eq_true (by omega)
                      obtain ⟨bb, off, rfl, hb, hcs⟩ := HI.out.2.2.2 (by rw [← HN.out]; omega)
                      have hc := (HBR.out.cell (p := ⟨bb, off + j, none⟩) hb).trans (hcs j (by rw [← HN.out]; omega))
                      have H1 := HOT.out j hjK
                      obtain ⟨R2, hR2⟩ : ∃ R, decide ((j : Int) ∈ d) = R := ⟨_, rfl⟩
                      rw [hR2] at H1
                      have HA := Lib.hid (fun k => HHA.out (j : Int) (wr.drewN k) (HIR.out.below (below_drewN (brefl wr) k)) R2 hR2.symm)
                      have hj7 : (j : Int) < (n : Int) := by omega
                      generalize l[j]?.getD 0 = x at hc H1
                      have t7 : (R2 != R2) = false := by cases R2 <;> rfl
                      clear hcs hb hR2
                      go_wp2_with fail
                      go_quiet ((go_at_call 10; refine Calls.quiet_of_same (HA.out _)))
                      go_wp2_with fail
                      go_roundw
                      case rel => exact ⟨j + 1, by first | rfl | go_num, by omega, Lib.hid (by obtain ⟨m, e⟩ := HM.out; exact ⟨m + nq, by rw [e, World.drewN_drewN]⟩)⟩
                      case measure => simp [intOf]; omega
                    · obtain rfl : j = K := by omega
                      by_cases hjn : j < n
                      · have t5 : decide ((j : Int) < (n : Int)) = true := decide_eq_true (by omega)
                        have t6 : decide ((j : Int) < 19) = false := decide_eq_false (by omega)
                        go_wp2_with fail
                        go_roundw
                        case rel => exact ⟨T + 1, by first | rfl | go_num, by omega, by omega, HWR, HBR⟩
                        case measure => simp [intOf]; omega
                      · exact absurd hKn2 hjn
                · obtain rfl : T = 401 := by omega
                  have t3 : decide (((401 : Nat) : Int) ≤ 400) = false := by decide
                  have C := Lib.hid (LF.out b (K + 1) _ wr HW.out)
                  rw [if_pos (end_is _ A (by omega))] at C
                  go_wp2_with fail
                  refine C.out.mono ?_; rintro e w5 ⟨rfl, m5, rfl⟩
                  clear C
                  go_wp2_with fail
                  go_ret
                  exact ⟨by first | rfl | simp, Go.Proofs.Ytjknojfdlpgicaa.Rtt.bdrewN HB.out m5⟩
            · rw [if_neg ha, er_1] at C
              have IN := Lib.hid (fun W => Go.Proofs.Ytjknojfdlpgicaa.Rtt.in_any ahead 1 400 W false (by symm; rw [Bool.and_eq_false_iff, decide_eq_false_iff_not, decide_eq_false_iff_not]; omega))
              go_wp2_with fail
              refine C.out.mono ?_; rintro e w4 ⟨rfl, hW4, hK4⟩
              have HB4 := Lib.hid (HB.out.trans (hK4.below (B := w.heap.size) (fun k hk => hk)))
              clear C hW4 hK4 HW HB
              go_wp2_with fail
              refine (IN.out _).mono ?_; rintro e w5 ⟨rfl, rfl⟩
              go_wp2_with fail
              go_ret
              exact ⟨rfl, HB4.out⟩
        · have t1 : decide ((K : Int) < (n : Int)) = false := decide_eq_false (by omega)
          have hKK : K = n ∨ K = 19 := by omega
          generalize wr = wa at HW HB ⊢
          have C := Lib.hid (SF.out b K (ini l K) 19 ahead wa HW.out (by omega) (by omega) (ini_free l K (by omega)))
          by_cases ha : 1 ≤ ahead ∧ ahead ≤ 400
          · obtain ⟨A, rfl⟩ : ∃ A : Nat, (A : Int) = ahead := ⟨ahead.toNat, by omega⟩
            rw [if_pos ha, val_good (by omega) (by omega), er_0] at C
            go_wp2_with fail
            refine C.out.mono ?_; rintro e w4 ⟨rfl, hW4, hK4⟩
            have HW4 := Lib.hid hW4
            have HB4 := Lib.hid (HB.out.trans (hK4.below (B := w.heap.size) (fun k hk => hk)))
            clear C hW4 hK4 HW HB
            try clear t1
            try clear t2
            go_wp2_with fail
            go_loopw [11] (fun iv wr => ∃ T : Nat, iv = .int .i64 (T : Int) ∧ 1 ≤ T ∧ T ≤ 401 ∧ Hid (Wh (fun k => k < w.heap.size) wr b (K + 1) (aft (updZ (ini l K) 19 A) (T - 1))) ∧ Hid (Below w.heap.size w wr)) (fun i _ => 401 - (intOf i).toNat)
            case atStart => exact ⟨1, rfl, by omega, by omega, HW4, HB4⟩
            case round =>
              clear HW4 HB4
              obtain ⟨T, rfl, hT, hT4, HW, HB⟩ := hrel
              by_cases hT0 : T ≤ 400
              · have t3 : decide ((T : Int) ≤ 400) = true := decide_eq_true (by omega)
                have C := Lib.hid (TK.out b (K + 1) _ wr HW.out)
                rw [dec_aft, show T - 1 + 1 = T by omega] at C
                have H19 := last_is (ini l K) A T hT
                have HOT := Lib.hid (fun j hj => other_is l K A T j hT hT0 hj hK)
                generalize dueL (aft (updZ (ini l K) 19 A) (T - 1)) = d at C H19 HOT
                go_wp2_with fail
                refine C.out.mono ?_; rintro e w5 ⟨p5, cap5, rfl, hi5, hW5, hK5⟩
                have HW5 := Lib.hid hW5
                have HI5 := Lib.hid hi5
                have HB5 := Lib.hid (HB.out.trans (hK5.below (B := w.heap.size) (fun k hk => hk)))
                clear hW5 hi5 hK5 HW HB C
                obtain ⟨R, hR⟩ : ∃ R, decide ((19 : Int) ∈ d) = R := ⟨_, rfl⟩
                rw [hR] at H19
                have HA := Lib.hid (has_any p5 cap5 d.length d 19 w5 rfl HI5.out R hR.symm)
                have HHA := Lib.hid (fun x W (hi : Ints W p5 cap5 d) R hR => has_any p5 cap5 d.length d x W rfl hi R hR)
                have hdl := HI5.out.len_le
                generalize d.length = dn at HA HHA hdl
                have t4 : (R != R) = false := by cases R <;> rfl
                clear hR
                go_wp2_with fail
                refine HA.out.mono ?_; rintro e w6 ⟨rfl, rfl⟩
                clear HA
                go_wp2_with fail
                go_loopw [13] (fun iv wr => ∃ j : Nat, iv = .int .i64 (j : Int) ∧ j ≤ K ∧ Hid (∃ m, wr = w6.drewN m)) (fun i _ => K - (intOf i).toNat)
                case atStart => exact ⟨0, rfl, Nat.zero_le _, Lib.hid ⟨0, rfl⟩⟩
                case round =>
                  obtain ⟨j, rfl, hj, HM⟩ := hrel
                  have hBr : Below w6.heap.size w6 wr := by
                    obtain ⟨m, e⟩ := HM.out
                    rw [e]
                    exact below_drewN (brefl w6) m
                  have HIR := Lib.hid (HI5.out.below hBr)
                  have HWR : Hid (Wh (fun k => k < w.heap.size) wr b (K + 1) (aft (updZ (ini l K) 19 A) T)) := Lib.hid (HW5.out.below hBr)
                  have HBR := Lib.hid (bcall HB5.out hBr)
                  clear hBr
                  by_cases hjK : j < K
                  · have t5 : decide ((j : Int) < (n : Int)) = true := decide_eq_true (by omega)
                    have t6 : decide ((j : Int) < 19) = true := decide_eq_true (by omega)
                    obtain ⟨bb, off, rfl, hb, hcs⟩ := HI.out.2.2.2 (by rw [← HN.out]; omega)
                    have hc := (HBR.out.cell (p := ⟨bb, off + j, none⟩) hb).trans (hcs j (by rw [← HN.out]; omega))
                    have H1 := HOT.out j hjK
                    obtain ⟨R2, hR2⟩ : ∃ R, decide ((j : Int) ∈ d) = R := ⟨_, rfl⟩
                    rw [hR2] at H1
                    have HA := Lib.hid (fun k => HHA.out (j : Int) (wr.drewN k) (HIR.out.below (below_drewN (brefl wr) k)) R2 hR2.symm)
                    have hj7 : (j : Int) < (n : Int) := by omega
                    generalize l[j]?.getD 0 = x at hc H1
                    have t7 : (R2 != R2) = false := by cases R2 <;> rfl
                    clear hcs hb hR2
                    go_wp2_with fail
                    go_quiet ((go_at_call 10; refine Calls.quiet_of_same (HA.out _)))
                    go_wp2_with fail
                    go_roundw
                    case rel => exact ⟨j + 1, by first | rfl | go_num, by omega, Lib.hid (by obtain ⟨m, e⟩ := HM.out; exact ⟨m + nq, by rw [e, World.drewN_drewN]⟩)⟩
                    case measure => simp [intOf]; omega
                  · obtain rfl : j = K := by omega
                    by_cases hjn : j < n
                    · have t5 : decide ((j : Int) < (n : Int)) = true := decide_eq_true (by omega)
                      have t6 : decide ((j : Int) < 19) = false := decide_eq_false (by omega)
                      go_wp2_with fail
                      go_roundw
                      case rel => exact ⟨T + 1, by first | rfl | go_num, by omega, by omega, HWR, HBR⟩
                      case measure => simp [intOf]; omega
                    · have t5 : decide ((j : Int) < (n : Int)) = false := decide_eq_false (by omega)
                      go_wp2_with fail
                      go_roundw
                      case rel => exact ⟨T + 1, by first | rfl | go_num, by omega, by omega, HWR, HBR⟩
                      case measure => simp [intOf]; omega
              · obtain rfl : T = 401 := by omega
                have t3 : decide (((401 : Nat) : Int) ≤ 400) = false := by decide
                have C := Lib.hid (LF.out b (K + 1) _ wr HW.out)
                rw [if_pos (end_is _ A (by omega))] at C
                go_wp2_with fail
                refine C.out.mono ?_; rintro e w5 ⟨rfl, m5, rfl⟩
                clear C
                go_wp2_with fail
                go_ret
                exact ⟨by first | rfl | simp, Go.Proofs.Ytjknojfdlpgicaa.Rtt.bdrewN HB.out m5⟩
          · rw [if_neg ha, er_1] at C
            have IN := Lib.hid (fun W => Go.Proofs.Ytjknojfdlpgicaa.Rtt.in_any ahead 1 400 W false (by symm; rw [Bool.and_eq_false_iff, decide_eq_false_iff_not, decide_eq_false_iff_not]; omega))
            go_wp2_with fail
            refine C.out.mono ?_; rintro e w4 ⟨rfl, hW4, hK4⟩
            have HB4 := Lib.hid (HB.out.trans (hK4.below (B := w.heap.size) (fun k hk => hk)))
            clear C hW4 hK4 HW HB
            go_wp2_with fail
            refine (IN.out _).mono ?_; rintro e w5 ⟨rfl, rfl⟩
            go_wp2_with fail
            go_ret
            exact ⟨rfl, HB4.out⟩

theorem reads : Try.f3.params.toList.all (fun t => Try.prog.readableRec t && decide (t < Try.prog.types.size)) = true := by kernel_rfl

theorem contract (H : Type) (enc : TypeId × Value → H) (W : World) (base : Nat) (args : Array Value) (ds gs : List (DataW H)) (before : List MemPlace)
    (hval : ∀ (j : Nat) t v, Try.f3.params[j]? = some t → args[j]? = some v → Value.okWide Try.prog W .any base t v)
    (hW : DataW.Whole enc Try.prog Try.f3.params.toList Rows.wheelDueSpec.vars false W args.toList ds gs before) :
    Calls Try.prog 3 args W fun e W' => ∃ v, e = .returned v ∧ Rows.wheelDueSpec.post enc Try.prog Try.f3 false true false false W args v W' := by
  have hW' := hW
  obtain ⟨p, q, hA0, hV, rfl, hfz, hnd⟩ := hW
  have hA : DataW.TrodAll enc Try.prog W 0 (fun _ => true) true Try.f3.params.toList args.toList ds p := hA0
  have hlt := hA.lt
  rw [Try.params3] at hA hval
  obtain ⟨v0, vs0, d0, ds0, p0, q0, hargs, rfl, rfl, h0, r0⟩ := trodAll_cons hA
  obtain ⟨v1, vs1, d1, ds1, p1, q1, hvs1, rfl, rfl, h1, r1⟩ := trodAll_cons r0
  obtain ⟨v2, vs2, d2, ds2, p2, q2, hvs2, rfl, rfl, h2, r2⟩ := trodAll_cons r1
  obtain ⟨hvsn, rfl, rfl⟩ := trodAll_nil r2
  simp only [hvsn, hvs2, hvs1] at hargs
  obtain rfl : args = #[v0, v1, v2] := by cases args; simp_all
  obtain ⟨rfl, rfl⟩ := trodVars_none hV
  clear hA0
  obtain ⟨a0, rfl, rfl, rfl, w0⟩ := open_int Try.underlying3 (hval 0 3 v0 rfl rfl) h0
  have b0 := bounds_int w0
  obtain ⟨a1, rfl, rfl, rfl, w1⟩ := open_int Try.underlying3 (hval 1 3 v1 rfl rfl) h1
  have b1 := bounds_int w1
  obtain ⟨p2a, cap2, l2, rfl, i2⟩ := open_intsl Try.underlying22 Try.underlying3 (by kernel_rfl) (hval 2 22 v2 rfl rfl) h2 (fun x hx => hlt x (by simp [hx]))
  exact law_post 4 laid reads rfl Try.underlying4 rfl hW' ⟨rfl, rfl, rfl⟩ (core a0 a1 p2a cap2 _ l2 W rfl i2 b0 b1)

set_option maxRecDepth 100000 in
theorem lifted (os : Os) (started : os.Started) (H : Type) (enc : TypeId × Value → H) :
    ReturnsInHanded {} Try.checked os 3 .any (Rows.wheelDueSpec.pre6 enc Try.prog Try.f3 Rows.wheelDueRow.domain false) (Rows.wheelDueSpec.post enc Try.prog Try.f3 false true false false) := by
  refine returnsInHanded_of_change (C := Try.checked) own started (by kernel_rfl) Try.func3
    (ChangeSpec.witness6 (enc := enc) (C := Try.checked) false ⟨#[], #[.int .i64 0, .int .i64 0, .slice none 0 0], []⟩ 8 (by kernel_rfl) (by kernel_rfl) (by kernel_rfl) (by kernel_rfl)) ?_
  intro W base args ds gs before hval hW _ _
  exact contract H enc W base args ds gs before hval hW

theorem proved : Rows.WheelDueSaid :=
  OpenClaim.holds_of_wide 3 Try.f3 rfl rfl rfl rfl rfl rfl rfl ⟨rfl, rfl, rfl, rfl, rfl⟩ rfl rfl rfl rfl rfl (by kernel_rfl) Try.func3 (by kernel_rfl)
    (of_decide_eq_true (by kernel_rfl)) (by unfold Func.isWrapper; first | (rw [if_pos (by decide +kernel)]; kernel_rfl) | (rw [if_neg (by decide +kernel)]; exact ⟨rfl, rfl⟩))
    (fun os started H enc _ => lifted os started H enc)
