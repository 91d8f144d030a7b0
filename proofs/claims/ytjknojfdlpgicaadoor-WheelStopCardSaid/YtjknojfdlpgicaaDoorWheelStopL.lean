/- WheelStop: a stopped timer does not run; it can be started again; it expires then: for every input, the row's handle laid as the card says. -/
import Derived.Test.YtjknojfdlpgicaaDoorCards
import Derived.Test.YtjknojfdlpgicaaDoorTie
import Derived.Deep.DeepHandedRow
import Derived.Lib.LaidTab
import Derived.LaidHandle
import Derived.SevenTiedAt
import Derived.Test.YtjknojfdlpgicaaDoorWheelLaw
import Derived.Test.YtjknojfdlpgicaaDoorWheelStop
import Derived.Test.YtjknojfdlpgicaaDoorAs
namespace Go.Proofs.YtjknojfdlpgicaaDoor.WheelStopL
open Go.ChangeShapes Go.WideShapes Go.ChangeAt Go.RowKit Go.Proofs.YtjknojfdlpgicaaDoor.Kit Go.Proofs.YtjknojfdlpgicaaDoor.App Go.Proofs.YtjknojfdlpgicaaDoor.MapZ Go.Proofs.YtjknojfdlpgicaaDoor.WheelMath Go.Proofs.YtjknojfdlpgicaaDoor.Wheel Go.Proofs.YtjknojfdlpgicaaDoor.As
set_option linter.unusedVariables false
set_option maxRecDepth 20000

theorem err_same (c : Int) (w : World) (hg : Handle w) : Calls Tryd.prog 11 #[er c, .int .i64 c] w fun e w' => e = .returned (.bool true) ∧ Below w.heap.size w w' :=
  (error_any c c w hg).mono fun e w' ⟨h1, h2⟩ => ⟨by rw [h1]; simp, h2⟩
def one5 (A : Nat) : Int → Nat := updZ none0 5 A
theorem five_nil (A k : Nat) (h : k + 1 < A) : dueL (aft (one5 A) k) = [] := due_nil fun i => by
  unfold aft one5 updZ none0
  split <;> omega
theorem five_at (A k : Nat) : aft (one5 A) k 5 = A - k := by unfold aft one5; rw [updZ_same]
theorem five_off (A k : Nat) : updZ (aft (one5 A) k) 5 0 = none0 := by
  funext i
  unfold updZ aft one5 none0 updZ
  split
  · rfl
  · simp
theorem five_len (A k : Nat) : (dueL (aft (one5 A) k)).length ≤ 1 := due_short (i := 5) fun j hj => by
  unfold aft one5
  rw [updZ_other _ _ hj]
  simp [none0]
theorem five_in (A T : Nat) (h : 1 ≤ T) : ((T : Int) == (A : Int)) = decide ((5 : Int) ∈ dueL (aft (one5 A) (T - 1))) := by
  rw [Bool.eq_iff_iff, beq_iff_eq, decide_eq_true_iff, due_in (by omega) (by omega), five_at]
  omega
theorem five_out (T : Nat) : false = decide ((5 : Int) ∈ dueL (aft (one5 0) (T - 1))) := by
  symm
  rw [decide_eq_false_iff_not, due_in (by omega) (by omega), five_at]
  omega
abbrev Law (ahead after again : Int) (w : World) : Prop := Calls Tryd.prog 3 #[.int .i64 ahead, .int .i64 after, .int .i64 again] w fun e w' => e = .returned (.bool true) ∧ Below w.heap.size w w'
set_option maxHeartbeats 4000000 in
theorem core (ahead after again : Int) (w : World) (hH : Handle w) (ha0 : -9223372036854775808 ≤ ahead ∧ ahead ≤ 9223372036854775807) (hb0 : -9223372036854775808 ≤ after ∧ after ≤ 9223372036854775807) (hc0 : -9223372036854775808 ≤ again ∧ again ≤ 9223372036854775807) : Law ahead after again w := by
  have HH := Lib.hid (fun W (hb : Below w.heap.size w W) => hH.below hb)
  have FA := Lib.hid (fact_any w)
  have NW := Lib.hid (fun W => new_any W)
  have TK := Lib.hid (fun b c left W H => tick_any (fun k => k < w.heap.size) b c left W H)
  have SF := Lib.hid (fun b c left a W H hc hl => start_free (fun k => k < w.heap.size) b c left 5 a W H hc (by omega) hl)
  have SP := Lib.hid (fun b c left W H hl => stop_good (fun k => k < w.heap.size) b c left 5 W H hl)
  have SN := Lib.hid (fun b c left W H hl => stop_none (fun k => k < w.heap.size) b c left 5 W H (by decide) hl)
  have LF := Lib.hid (fun b c left W H => left_any (fun k => k < w.heap.size) b c left 5 W H (by decide))
  clear hH
  unfold Law
  go_enter Tryd.func3, Tryd.ntmps3
  go_wp2_with fail
  refine FA.out.mono ?_; rintro e w1 ⟨rfl, hb1⟩
  clear FA
  go_wp2_with fail
  refine (NW.out w1).mono ?_; rintro e w2 ⟨b, rfl, hW2, hb2⟩
  have HW2 := Lib.hid (hW2.less (Y := fun k => k < w.heap.size) (fun k hk => Nat.lt_of_lt_of_le hk hb1.size))
  have HB2 := Lib.hid (bcall hb1 hb2)
  clear hb1 hb2 hW2 NW
  change Hid (Wh (fun k => k < w.heap.size) w2 b 0 none0) at HW2
  have C := Lib.hid (SF.out b 0 none0 ahead w2 HW2.out (by omega) rfl)
  by_cases ha : 1 ≤ ahead ∧ ahead ≤ 400
  · obtain ⟨A, rfl⟩ : ∃ A : Nat, (A : Int) = ahead := ⟨ahead.toNat, by omega⟩
    rw [if_pos ha, val_good (by omega) (by omega), er_0] at C
    go_wp2_with fail
    refine C.out.mono ?_; rintro e w3 ⟨rfl, hW3, hK3⟩
    have HW3 := Lib.hid hW3
    have HB3 := Lib.hid (HB2.out.trans (hK3.below (B := w.heap.size) (fun k hk => hk)))
    clear C hW3 hK3 HW2 HB2
    change Hid (Wh (fun k => k < w.heap.size) w3 b 1 (aft (one5 A) 0)) at HW3
    go_wp2_with fail
    go_loopw [9] (fun iv wr => ∃ j : Nat, iv = .int .i64 (j : Int) ∧ j ≤ A - 1 ∧ Hid (Wh (fun k => k < w.heap.size) wr b 1 (aft (one5 A) j)) ∧ Hid (Below w.heap.size w wr)) (fun i _ => A - (intOf i).toNat)
    case atStart => exact ⟨0, rfl, Nat.zero_le _, HW3, HB3⟩
    case round =>
      clear HW3 HB3
      obtain ⟨j, rfl, hj, HW, HB⟩ := hrel
      by_cases hja : (j : Int) < after
      · have t1 : decide ((j : Int) < after) = true := decide_eq_true hja
        by_cases hjA : (j : Int) < (A : Int) - 1
        · have t2 : decide ((j : Int) < (A : Int) - 1) = true := decide_eq_true hjA
          have C := Lib.hid (TK.out b 1 _ wr HW.out)
          rw [five_nil A j (by omega), dec_aft] at C
          go_wp2_with fail
          refine C.out.mono ?_; rintro e w4 ⟨p4, cap4, rfl, hi4, hW4, hK4⟩
          have HW4 := Lib.hid hW4
          have HB4 := Lib.hid (HB.out.trans (hK4.below (B := w.heap.size) (fun k hk => hk)))
          clear C hi4 hW4 hK4
          go_wp2_with fail
          go_roundw
          case rel => exact ⟨j + 1, by first | rfl | go_num, by omega, HW4, HB4⟩
          case measure => simp [intOf]; omega
        · have t2 : decide ((j : Int) < (A : Int) - 1) = false := decide_eq_false hjA
          have C := Lib.hid (SP.out b 1 _ wr HW.out (by rw [five_at]; omega))
          rw [five_off] at C
          go_wp2_with fail
          refine C.out.mono ?_; rintro e w4 ⟨rfl, hW4, hK4⟩
          have HW4 := Lib.hid hW4
          have HB4 := Lib.hid (HB.out.trans (hK4.below (B := w.heap.size) (fun k hk => hk)))
          clear C hW4 hK4 HW HB
          have C := Lib.hid (SN.out b 1 none0 w4 HW4.out rfl)
          rw [er_5] at C
          go_wp2_with fail
          refine C.out.mono ?_; rintro e w5 ⟨rfl, hb5⟩
          have HW5 := Lib.hid (HW4.out.below hb5)
          have HB5 := Lib.hid (bcall HB4.out hb5)
          clear C hb5 HW4 HB4
          have C := Lib.hid (err_same 5 w5 (HH.out _ HB5.out))
          rw [er_5] at C
          go_wp2_with fail
          refine C.out.mono ?_; rintro e w6 ⟨rfl, hb6⟩
          have HW6 := Lib.hid (HW5.out.below hb6)
          have HB6 := Lib.hid (bcall HB5.out hb6)
          clear C hb6 HW5 HB5
          have C := Lib.hid (LF.out b 1 none0 w6 HW6.out)
          rw [if_pos (show none0 5 = 0 from rfl)] at C
          go_wp2_with fail
          refine C.out.mono ?_; rintro e w7 ⟨rfl, m7, rfl⟩
          have HW7 := Lib.hid (HW6.out.drewN m7)
          have HB7 := Lib.hid (Go.Proofs.YtjknojfdlpgicaaDoor.Rtt.bdrewN HB6.out m7)
          clear C HW6 HB6
          generalize w6.drewN m7 = w7 at HW7 HB7 ⊢
          have C := Lib.hid (SF.out b 1 none0 again w7 HW7.out (by omega) rfl)
          change Hid (Calls _ _ _ _ fun e w' => _ ∧ Wh (fun k => k < w.heap.size) w' b 2 (aft (one5 (val again)) (1 - 1)) ∧ _) at C
          by_cases hg : 1 ≤ again ∧ again ≤ 400
          · obtain ⟨G, rfl⟩ : ∃ G : Nat, (G : Int) = again := ⟨again.toNat, by omega⟩
            rw [if_pos hg, val_good (by omega) (by omega), er_0] at C
            go_wp2_with fail
            refine C.out.mono ?_; rintro e w8 ⟨rfl, hW8, hK8⟩
            have HW8 := Lib.hid hW8
            have HB8 := Lib.hid (HB7.out.trans (hK8.below (B := w.heap.size) (fun k hk => hk)))
            clear C hW8 hK8 HW7 HB7
            go_wp2_with fail
            go_loopw [11] (fun iv wr => ∃ T : Nat, iv = .int .i64 (T : Int) ∧ 1 ≤ T ∧ T ≤ 401 ∧ Hid (Wh (fun k => k < w.heap.size) wr b 2 (aft (one5 G) (T - 1))) ∧ Hid (Below w.heap.size w wr)) (fun i _ => 401 - (intOf i).toNat)
            case atStart => exact ⟨1, rfl, by omega, by omega, HW8, HB8⟩
            case round =>
              clear HW8 HB8
              obtain ⟨T, rfl, hT, hT4, HW, HB⟩ := hrel
              by_cases hT0 : T ≤ 400
              · have t3 : decide ((T : Int) ≤ 400) = true := decide_eq_true (by omega)
                have C := Lib.hid (TK.out b 2 _ wr HW.out)
                rw [dec_aft, show T - 1 + 1 = T by omega] at C
                have H5 := five_in G T hT
                have hlen := five_len G (T - 1)
                generalize dueL (aft (one5 G) (T - 1)) = d at C H5 hlen
                go_wp2_with fail
                refine C.out.mono ?_; rintro e w9 ⟨p9, cap9, rfl, hi9, hW9, hK9⟩
                have HW9 := Lib.hid hW9
                have HI9 := Lib.hid hi9
                have HB9 := Lib.hid (HB.out.trans (hK9.below (B := w.heap.size) (fun k hk => hk)))
                clear hW9 hi9 hK9 HW HB C
                obtain ⟨R, hR⟩ : ∃ R, decide ((5 : Int) ∈ d) = R := ⟨_, rfl⟩
                rw [hR] at H5
                have HA := Lib.hid (fun k => has_any p9 cap9 d.length d 5 (w9.drewN k) rfl (HI9.out.below (Go.Proofs.YtjknojfdlpgicaaDoor.App.below_drewN (brefl w9) k)) R hR.symm)
                have t7 : decide (1 < (d.length : Int)) = false := decide_eq_false (by omega)
                generalize d.length = dn at HA hlen t7
                have t4 : (R != R) = false := by cases R <;> rfl
                clear hR
                go_wp2_with fail
                go_quiet ((go_at_call 13; refine Calls.quiet_of_same (HA.out _)))
                go_wp2_with fail
                go_roundw
                case rel => exact ⟨T + 1, by first | rfl | go_num, by omega, by omega, Lib.hid (HW9.out.drewN _), Lib.hid (Go.Proofs.YtjknojfdlpgicaaDoor.Rtt.bdrewN HB9.out _)⟩
                case measure => simp [intOf]; omega
              · obtain rfl : T = 401 := by omega
                have t3 : decide (((401 : Nat) : Int) ≤ 400) = false := by decide
                go_wp2_with fail
                go_ret
                exact ⟨by first | rfl | simp, HB.out⟩
          · rw [if_neg hg, val_bad hg, er_1] at C
            have IN := Lib.hid (fun W => Go.Proofs.YtjknojfdlpgicaaDoor.Rtt.in_any again 1 400 W false (by symm; rw [Bool.and_eq_false_iff, decide_eq_false_iff_not, decide_eq_false_iff_not]; omega))
            go_wp2_with fail
            refine C.out.mono ?_; rintro e w8 ⟨rfl, hW8, hK8⟩
            have HW8 := Lib.hid hW8
            have HB8 := Lib.hid (HB7.out.trans (hK8.below (B := w.heap.size) (fun k hk => hk)))
            clear C hW8 hK8 HW7 HB7
            go_wp2_with fail
            go_loopw [11] (fun iv wr => ∃ T : Nat, iv = .int .i64 (T : Int) ∧ 1 ≤ T ∧ T ≤ 401 ∧ Hid (Wh (fun k => k < w.heap.size) wr b 2 (aft (one5 0) (T - 1))) ∧ Hid (Below w.heap.size w wr)) (fun i _ => 401 - (intOf i).toNat)
            case atStart => exact ⟨1, rfl, by omega, by omega, HW8, HB8⟩
            case round =>
              clear HW8 HB8
              obtain ⟨T, rfl, hT, hT4, HW, HB⟩ := hrel
              by_cases hT0 : T ≤ 400
              · have t3 : decide ((T : Int) ≤ 400) = true := decide_eq_true (by omega)
                have C := Lib.hid (TK.out b 2 _ wr HW.out)
                rw [dec_aft, show T - 1 + 1 = T by omega] at C
                have H5 := five_out T
                have hlen := five_len 0 (T - 1)
                generalize dueL (aft (one5 0) (T - 1)) = d at C H5 hlen
                go_wp2_with fail
                refine C.out.mono ?_; rintro e w9 ⟨p9, cap9, rfl, hi9, hW9, hK9⟩
                have HW9 := Lib.hid hW9
                have HI9 := Lib.hid hi9
                have HB9 := Lib.hid (HB.out.trans (hK9.below (B := w.heap.size) (fun k hk => hk)))
                clear hW9 hi9 hK9 HW HB C
                obtain ⟨R, hR⟩ : ∃ R, decide ((5 : Int) ∈ d) = R := ⟨_, rfl⟩
                rw [hR] at H5
                have HA := Lib.hid (fun k => has_any p9 cap9 d.length d 5 (w9.drewN k) rfl (HI9.out.below (Go.Proofs.YtjknojfdlpgicaaDoor.App.below_drewN (brefl w9) k)) R hR.symm)
                have t7 : decide (1 < (d.length : Int)) = false := decide_eq_false (by omega)
                generalize d.length = dn at HA hlen t7
                have t4 : (R != R) = false := by cases R <;> rfl
                clear hR
                subst H5
                go_wp2_with fail
                go_quiet ((go_at_call 13; refine Calls.quiet_of_same (HA.out _)))
                go_wp2_with fail
                go_roundw
                case rel => exact ⟨T + 1, by first | rfl | go_num, by omega, by omega, Lib.hid (HW9.out.drewN _), Lib.hid (Go.Proofs.YtjknojfdlpgicaaDoor.Rtt.bdrewN HB9.out _)⟩
                case measure => simp [intOf]; omega
              · obtain rfl : T = 401 := by omega
                have t3 : decide (((401 : Nat) : Int) ≤ 400) = false := by decide
                go_wp2_with fail
                refine (IN.out _).mono ?_; rintro e w9 ⟨rfl, rfl⟩
                go_wp2_with fail
                go_ret
                exact ⟨by first | rfl | simp, HB.out⟩
      · have t1 : decide ((j : Int) < after) = false := decide_eq_false hja
        have C := Lib.hid (SP.out b 1 _ wr HW.out (by rw [five_at]; omega))
        rw [five_off] at C
        go_wp2_with fail
        refine C.out.mono ?_; rintro e w4 ⟨rfl, hW4, hK4⟩
        have HW4 := Lib.hid hW4
        have HB4 := Lib.hid (HB.out.trans (hK4.below (B := w.heap.size) (fun k hk => hk)))
        clear C hW4 hK4 HW HB
        have C := Lib.hid (SN.out b 1 none0 w4 HW4.out rfl)
        rw [er_5] at C
        go_wp2_with fail
        refine C.out.mono ?_; rintro e w5 ⟨rfl, hb5⟩
        have HW5 := Lib.hid (HW4.out.below hb5)
        have HB5 := Lib.hid (bcall HB4.out hb5)
        clear C hb5 HW4 HB4
        have C := Lib.hid (err_same 5 w5 (HH.out _ HB5.out))
        rw [er_5] at C
        go_wp2_with fail
        refine C.out.mono ?_; rintro e w6 ⟨rfl, hb6⟩
        have HW6 := Lib.hid (HW5.out.below hb6)
        have HB6 := Lib.hid (bcall HB5.out hb6)
        clear C hb6 HW5 HB5
        have C := Lib.hid (LF.out b 1 none0 w6 HW6.out)
        rw [if_pos (show none0 5 = 0 from rfl)] at C
        go_wp2_with fail
        refine C.out.mono ?_; rintro e w7 ⟨rfl, m7, rfl⟩
        have HW7 := Lib.hid (HW6.out.drewN m7)
        have HB7 := Lib.hid (Go.Proofs.YtjknojfdlpgicaaDoor.Rtt.bdrewN HB6.out m7)
        clear C HW6 HB6
        generalize w6.drewN m7 = w7 at HW7 HB7 ⊢
        have C := Lib.hid (SF.out b 1 none0 again w7 HW7.out (by omega) rfl)
        change Hid (Calls _ _ _ _ fun e w' => _ ∧ Wh (fun k => k < w.heap.size) w' b 2 (aft (one5 (val again)) (1 - 1)) ∧ _) at C
        by_cases hg : 1 ≤ again ∧ again ≤ 400
        · obtain ⟨G, rfl⟩ : ∃ G : Nat, (G : Int) = again := ⟨again.toNat, by omega⟩
          rw [if_pos hg, val_good (by omega) (by omega), er_0] at C
          go_wp2_with fail
          refine C.out.mono ?_; rintro e w8 ⟨rfl, hW8, hK8⟩
          have HW8 := Lib.hid hW8
          have HB8 := Lib.hid (HB7.out.trans (hK8.below (B := w.heap.size) (fun k hk => hk)))
          clear C hW8 hK8 HW7 HB7
          go_wp2_with fail
          go_loopw [11] (fun iv wr => ∃ T : Nat, iv = .int .i64 (T : Int) ∧ 1 ≤ T ∧ T ≤ 401 ∧ Hid (Wh (fun k => k < w.heap.size) wr b 2 (aft (one5 G) (T - 1))) ∧ Hid (Below w.heap.size w wr)) (fun i _ => 401 - (intOf i).toNat)
          case atStart => exact ⟨1, rfl, by omega, by omega, HW8, HB8⟩
          case round =>
            clear HW8 HB8
            obtain ⟨T, rfl, hT, hT4, HW, HB⟩ := hrel
            by_cases hT0 : T ≤ 400
            · have t3 : decide ((T : Int) ≤ 400) = true := decide_eq_true (by omega)
              have C := Lib.hid (TK.out b 2 _ wr HW.out)
              rw [dec_aft, show T - 1 + 1 = T by omega] at C
              have H5 := five_in G T hT
              have hlen := five_len G (T - 1)
              generalize dueL (aft (one5 G) (T - 1)) = d at C H5 hlen
              go_wp2_with fail
              refine C.out.mono ?_; rintro e w9 ⟨p9, cap9, rfl, hi9, hW9, hK9⟩
              have HW9 := Lib.hid hW9
              have HI9 := Lib.hid hi9
              have HB9 := Lib.hid (HB.out.trans (hK9.below (B := w.heap.size) (fun k hk => hk)))
              clear hW9 hi9 hK9 HW HB C
              obtain ⟨R, hR⟩ : ∃ R, decide ((5 : Int) ∈ d) = R := ⟨_, rfl⟩
              rw [hR] at H5
              have HA := Lib.hid (fun k => has_any p9 cap9 d.length d 5 (w9.drewN k) rfl (HI9.out.below (Go.Proofs.YtjknojfdlpgicaaDoor.App.below_drewN (brefl w9) k)) R hR.symm)
              have t7 : decide (1 < (d.length : Int)) = false := decide_eq_false (by omega)
              generalize d.length = dn at HA hlen t7
              have t4 : (R != R) = false := by cases R <;> rfl
              clear hR
              go_wp2_with fail
              go_quiet ((go_at_call 13; refine Calls.quiet_of_same (HA.out _)))
              go_wp2_with fail
              go_roundw
              case rel => exact ⟨T + 1, by first | rfl | go_num, by omega, by omega, Lib.hid (HW9.out.drewN _), Lib.hid (Go.Proofs.YtjknojfdlpgicaaDoor.Rtt.bdrewN HB9.out _)⟩
              case measure => simp [intOf]; omega
            · obtain rfl : T = 401 := by omega
              have t3 : decide (((401 : Nat) : Int) ≤ 400) = false := by decide
              go_wp2_with fail
              go_ret
              exact ⟨by first | rfl | simp, HB.out⟩
        · rw [if_neg hg, val_bad hg, er_1] at C
          have IN := Lib.hid (fun W => Go.Proofs.YtjknojfdlpgicaaDoor.Rtt.in_any again 1 400 W false (by symm; rw [Bool.and_eq_false_iff, decide_eq_false_iff_not, decide_eq_false_iff_not]; omega))
          go_wp2_with fail
          refine C.out.mono ?_; rintro e w8 ⟨rfl, hW8, hK8⟩
          have HW8 := Lib.hid hW8
          have HB8 := Lib.hid (HB7.out.trans (hK8.below (B := w.heap.size) (fun k hk => hk)))
          clear C hW8 hK8 HW7 HB7
          go_wp2_with fail
          go_loopw [11] (fun iv wr => ∃ T : Nat, iv = .int .i64 (T : Int) ∧ 1 ≤ T ∧ T ≤ 401 ∧ Hid (Wh (fun k => k < w.heap.size) wr b 2 (aft (one5 0) (T - 1))) ∧ Hid (Below w.heap.size w wr)) (fun i _ => 401 - (intOf i).toNat)
          case atStart => exact ⟨1, rfl, by omega, by omega, HW8, HB8⟩
          case round =>
            clear HW8 HB8
            obtain ⟨T, rfl, hT, hT4, HW, HB⟩ := hrel
            by_cases hT0 : T ≤ 400
            · have t3 : decide ((T : Int) ≤ 400) = true := decide_eq_true (by omega)
              have C := Lib.hid (TK.out b 2 _ wr HW.out)
              rw [dec_aft, show T - 1 + 1 = T by omega] at C
              have H5 := five_out T
              have hlen := five_len 0 (T - 1)
              generalize dueL (aft (one5 0) (T - 1)) = d at C H5 hlen
              go_wp2_with fail
              refine C.out.mono ?_; rintro e w9 ⟨p9, cap9, rfl, hi9, hW9, hK9⟩
              have HW9 := Lib.hid hW9
              have HI9 := Lib.hid hi9
              have HB9 := Lib.hid (HB.out.trans (hK9.below (B := w.heap.size) (fun k hk => hk)))
              clear hW9 hi9 hK9 HW HB C
              obtain ⟨R, hR⟩ : ∃ R, decide ((5 : Int) ∈ d) = R := ⟨_, rfl⟩
              rw [hR] at H5
              have HA := Lib.hid (fun k => has_any p9 cap9 d.length d 5 (w9.drewN k) rfl (HI9.out.below (Go.Proofs.YtjknojfdlpgicaaDoor.App.below_drewN (brefl w9) k)) R hR.symm)
              have t7 : decide (1 < (d.length : Int)) = false := decide_eq_false (by omega)
              generalize d.length = dn at HA hlen t7
              have t4 : (R != R) = false := by cases R <;> rfl
              clear hR
              subst H5
              go_wp2_with fail
              go_quiet ((go_at_call 13; refine Calls.quiet_of_same (HA.out _)))
              go_wp2_with fail
              go_roundw
              case rel => exact ⟨T + 1, by first | rfl | go_num, by omega, by omega, Lib.hid (HW9.out.drewN _), Lib.hid (Go.Proofs.YtjknojfdlpgicaaDoor.Rtt.bdrewN HB9.out _)⟩
              case measure => simp [intOf]; omega
            · obtain rfl : T = 401 := by omega
              have t3 : decide (((401 : Nat) : Int) ≤ 400) = false := by decide
              go_wp2_with fail
              refine (IN.out _).mono ?_; rintro e w9 ⟨rfl, rfl⟩
              go_wp2_with fail
              go_ret
              exact ⟨by first | rfl | simp, HB.out⟩
  · rw [if_neg ha, er_1] at C
    have IN := Lib.hid (fun W => Go.Proofs.YtjknojfdlpgicaaDoor.Rtt.in_any ahead 1 400 W false (by symm; rw [Bool.and_eq_false_iff, decide_eq_false_iff_not, decide_eq_false_iff_not]; omega))
    go_wp2_with fail
    refine C.out.mono ?_; rintro e w3 ⟨rfl, hW3, hK3⟩
    have HB3 := Lib.hid (HB2.out.trans (hK3.below (B := w.heap.size) (fun k hk => hk)))
    clear C hW3 hK3
    go_wp2_with fail
    refine (IN.out _).mono ?_; rintro e w4 ⟨rfl, rfl⟩
    go_wp2_with fail
    go_ret
    exact ⟨rfl, HB3.out⟩

theorem reads : Tryd.f3.params.toList.all (fun t => Tryd.prog.readableRec t && decide (t < Tryd.prog.types.size)) = true := by kernel_rfl
theorem et : Tryd.prog.globalNamed "errors.errorType" = some 0 := by kernel_rfl
theorem rt : (Tryd.prog.cutTypes.find? (·.1 == "internal/reflectlite.rtype")).map (·.2) = some 85 := by kernel_rfl
theorem oneRow : ((List.range Tryd.prog.types.size).filter fun t => Tryd.prog.rowNamed t [101, 114, 114, 111, 114]) = [26] := by kernel_rfl

theorem handle_of_laid {W : World} (h : laidMetH Tryd.prog Rows.wheelStopRow.laid W) : Handle W := by
  have h' : laidMet Tryd.prog [] W ∧ handlesMet Tryd.prog Rows.wheelStopRow.laid W := h
  obtain ⟨name, u, ty, e1, e2, e3, e4, e5⟩ := h'.2 _ (List.mem_singleton.2 rfl)
  have en : name = [101, 114, 114, 111, 114] := (Option.some.inj e1).symm
  subst en
  obtain rfl := Option.some.inj (rt.symm.trans e2)
  have hm : ty ∈ (List.range Tryd.prog.types.size).filter fun t => Tryd.prog.rowNamed t [101, 114, 114, 111, 114] := List.mem_filter.2 ⟨List.mem_range.2 e3, e4⟩
  rw [oneRow] at hm
  obtain rfl := List.mem_singleton.1 hm
  have hh : typeHandle Tryd.prog 26 = .pointer (some ⟨1, 26, none⟩) := by kernel_rfl
  rw [hh] at e5
  have e6 := World.var?_cell et e5 0
  unfold Handle
  simpa using e6

noncomputable def laidWorld (os : Os) : World :=
  { World.holding Tryd.prog os ⟨#[], #[], []⟩ with heap := (World.holding Tryd.prog os ⟨#[], #[], []⟩).heap.modify 0 fun
      | .cells _ t frozen => .cells #[.iface 85 (.agg #[.pointer (some ⟨1, 26, none⟩)])] t frozen
      | o => o }
theorem laid_met (os : Os) : laidMetH Tryd.prog Rows.wheelStopRow.laid ((laidWorld os).forCall (fun _ _ => 0) ⟨#[], #[.int .i64 0, .int .i64 0, .int .i64 0], []⟩).memory :=
  laidMetH_of_parts (laidMet_nil _ _) (by kernel_rfl)
theorem reads_wit (os : Os) {H : Type} (enc : TypeId × Value → H) : ∃ places, DataW.whole enc Tryd.prog ((laidWorld os).forCall (fun _ _ => 0) ⟨#[], #[.int .i64 0, .int .i64 0, .int .i64 0], []⟩).memory Tryd.f3.params.toList Rows.wheelStopSpec.vars false (#[.int .i64 0, .int .i64 0, .int .i64 0] : Array Value).toList 8 = some ([.lit (.int .i64 0), .lit (.int .i64 0), .lit (.int .i64 0)], [], places) :=
  ⟨[], by kernel_rfl⟩

theorem contract (H : Type) (enc : TypeId × Value → H) (W : World) (base : Nat) (args : Array Value) (ds gs : List (DataW H)) (before : List MemPlace)
    (hval : ∀ (j : Nat) t v, Tryd.f3.params[j]? = some t → args[j]? = some v → Value.okWide Tryd.prog W .any base t v)
    (hW : DataW.Whole enc Tryd.prog Tryd.f3.params.toList Rows.wheelStopSpec.vars false W args.toList ds gs before) (hL : laidMetH Tryd.prog Rows.wheelStopRow.laid W) :
    Calls Tryd.prog 3 args W fun e W' => ∃ v, e = .returned v ∧ Rows.wheelStopSpec.post enc Tryd.prog Tryd.f3 false true false false W args v W' := by
  have hW' := hW
  have hg := handle_of_laid hL
  obtain ⟨p, q, hA0, hV, rfl, hfz, hnd⟩ := hW
  have hA : DataW.TrodAll enc Tryd.prog W 0 (fun _ => true) true Tryd.f3.params.toList args.toList ds p := hA0
  have hlt := hA.lt
  rw [Tryd.params3] at hA hval
  obtain ⟨v0, vs0, d0, ds0, p0, q0, hargs, rfl, rfl, h0, r0⟩ := trodAll_cons hA
  obtain ⟨v1, vs1, d1, ds1, p1, q1, hvs1, rfl, rfl, h1, r1⟩ := trodAll_cons r0
  obtain ⟨v2, vs2, d2, ds2, p2, q2, hvs2, rfl, rfl, h2, r2⟩ := trodAll_cons r1
  obtain ⟨hvsn, rfl, rfl⟩ := trodAll_nil r2
  simp only [hvsn, hvs2, hvs1] at hargs
  obtain rfl : args = #[v0, v1, v2] := by cases args; simp_all
  obtain ⟨a0, rfl, rfl, rfl, w0⟩ := open_int Tryd.underlying3 (hval 0 3 v0 rfl rfl) h0
  have b0 := bounds_int w0
  obtain ⟨a1, rfl, rfl, rfl, w1⟩ := open_int Tryd.underlying3 (hval 1 3 v1 rfl rfl) h1
  have b1 := bounds_int w1
  obtain ⟨a2, rfl, rfl, rfl, w2⟩ := open_int Tryd.underlying3 (hval 2 3 v2 rfl rfl) h2
  have b2 := bounds_int w2
  obtain ⟨rfl, rfl⟩ := trodVars_none hV
  clear hA0
  exact law_post 4 laid reads rfl Tryd.underlying4 rfl hW' ⟨rfl, rfl, rfl⟩ (core a0 a1 a2 W hg b0 b1 b2)

set_option maxRecDepth 100000 in
theorem lifted (os : Os) (started : os.Started) (H : Type) (enc : TypeId × Value → H) (F : Stop.Interp) :
    ReturnsInHanded {} Tryd.checked os 3 .any ((OpenSpec.ofChange Rows.wheelStopSpec).preRow enc Tryd.prog Tryd.f3 Rows.wheelStopRow.domain false Rows.wheelStopRow.laid) (((OpenSpec.ofChange Rows.wheelStopSpec).at F).post enc Tryd.prog Tryd.f3 false true false false) := by
  obtain ⟨places, hx⟩ := reads_wit os enc
  refine returnsInHanded_of_row (C := Tryd.checked) (s := (OpenSpec.ofChange Rows.wheelStopSpec)) own started (by kernel_rfl) Tryd.func3
    (witness_row_at (enc := enc) (C := Tryd.checked) false (laidWorld os) #[.int .i64 0, .int .i64 0, .int .i64 0] rfl (by kernel_rfl) (by kernel_rfl) (by kernel_rfl)
      (OpenSpec.preRow_of_cond 8 hx (by kernel_rfl) (fun k hk => by cases hk) (by kernel_rfl) (laid_met os))) ?_
  intro W base args ds gs before hval hW _ hcond _ hL _ _
  exact contract H enc W base args ds gs before hval hW hL

theorem said : Rows.WheelStopSaid :=
  OpenClaim.holds_of_cond 3 Tryd.f3 rfl rfl rfl rfl rfl rfl rfl ⟨rfl, rfl, rfl, rfl, rfl⟩ rfl rfl rfl rfl rfl (by kernel_rfl) Tryd.func3 (by kernel_rfl)
    (of_decide_eq_true (by kernel_rfl)) (by unfold Func.isWrapper; first | (rw [if_pos (by decide +kernel)]; kernel_rfl) | (rw [if_neg (by decide +kernel)]; exact ⟨rfl, rfl⟩))
    (fun os started H enc _ F => by rw [OpenClaim.pre_eq_preRow]; exact lifted os started H enc F)

theorem plain (f : FuncId) (fn : Func) (hf : Tryd.pinned.checked.prog.funcNamed Rows.wheelStopRow.func = some f) (hfn : Tryd.pinned.checked.prog.funcs[f]? = some fn) :
    true = Tryd.pinned.checked.prog.looks [] ∧ ∀ (j : Nat) t, fn.params[j]? = some t → Tryd.pinned.checked.prog.wantsStandIn t = false := by
  obtain rfl : f = 3 := Option.some.inj ((show Tryd.prog.funcNamed Rows.wheelStopRow.func = some 3 by kernel_rfl).symm.trans hf) |>.symm
  obtain rfl : fn = Tryd.f3 := (Option.some.inj (Tryd.func3.symm.trans hfn)).symm
  refine ⟨by kernel_rfl, fun j t ht => ?_⟩
  have hall : Tryd.f3.params.toList.all (fun t => !Tryd.prog.wantsStandIn t) = true := by kernel_rfl
  have hm : t ∈ Tryd.f3.params.toList := by simpa using Array.mem_of_getElem? ht
  have := List.all_eq_true.1 hall t hm
  show Tryd.prog.wantsStandIn t = false
  simpa using this

theorem proved : Rows.WheelStopCardSaid :=
  Claim7.holds_tied_plain_at .later [] _ _ _ _ said (fun _ h => by cases h) (by kernel_rfl) (fun _ h => by cases h) wheelStop_row_tie rfl ⟨rfl, rfl⟩ (by kernel_rfl) rfl plain (by kernel_rfl)
end Go.Proofs.YtjknojfdlpgicaaDoor.WheelStopL
