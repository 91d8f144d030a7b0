/- First fast, then slowly: below the threshold one more for each that is told, from there on one more for as many as may be on their way: the law returns true for every input. No condition. -/
import Derived.Test.YtbemlbjnjpjlhaaRenoLaw
namespace Go.Proofs.Ytbemlbjnjpjlhaa.RenoSlowL
open Go.ChangeShapes Go.WideShapes Go.ChangeAt Go.RowKit Go.Proofs.Ytbemlbjnjpjlhaa.Kit Go.Proofs.Ytbemlbjnjpjlhaa.App Go.Proofs.Ytbemlbjnjpjlhaa.Err Go.Proofs.Ytbemlbjnjpjlhaa.Reno
set_option linter.unusedVariables false
set_option maxRecDepth 20000

abbrev Law (p : Option Addr) (cap n : Nat) (t : Int) (w : World) : Prop := Calls Try.prog 3 #[.slice p n cap, .int .i64 t] w fun e w' => e = .returned (.bool true) ∧ Below w.heap.size w w'
set_option maxHeartbeats 2000000 in
theorem core (p0 : Option Addr) (cap n : Nat) (l : List Int) (t : Int) (w : World) (hn : n = l.length) (hi : Ints w p0 cap l) (ht0 : -9223372036854775808 ≤ t ∧ t ≤ 9223372036854775807) : Law p0 cap n t w := by
  have hcap := hi.len_le
  rw [← hn] at hcap
  have HI := Lib.hid hi
  have HN := Lib.hid hn
  clear hi hn
  have FA := Lib.hid (fact_any w)
  have NW := Lib.hid (fun W => new_any W)
  unfold Law
  go_enter Try.func3, Try.ntmps3
  go_wp2_with fail
  refine FA.out.mono ?_; rintro e w1 ⟨rfl, hb1⟩
  clear FA
  go_wp2_with fail
  refine (NW.out w1).mono ?_; rintro e w2 ⟨rfl, hT2, hb2⟩
  have HB2 := Lib.hid (bcall hb1 hb2)
  have HG := Lib.hid hb1.size
  have HT2 := Lib.hid hT2
  clear hb1 hb2 hT2 NW
  generalize w1.heap.size = g at HT2 HG ⊢
  go_wp2_with fail
  go_loopw [7] (fun iv wr => ∃ j : Nat, iv = .int .i64 (j : Int) ∧ j ≤ n ∧ ∃ s, Hid (Flw wr g s) ∧ Hid (Ok s) ∧ Hid (Below w.heap.size w wr)) (fun i _ => n - (intOf i).toNat)
  case atStart => exact ⟨0, rfl, Nat.zero_le _, _, HT2, Lib.hid ok_new, HB2⟩
  case round =>
    obtain ⟨j, rfl, hj, s, HT, HO, HB⟩ := hrel
    clear HT2 HB2
    by_cases hjn : j < n
    · have t1 : decide ((j : Int) < (n : Int)) = true := decide_eq_true (by omega)
      by_cases hj60 : j < 400
      · have t2 : decide ((j : Int) < 400) = true := decide_eq_true (by omega)
        obtain ⟨b, off, rfl, hb, hcs⟩ := HI.out.2.2.2 (by rw [← HN.out]; omega)
        have hc := (HB.out.cell (p := ⟨b, off + j, none⟩) hb).trans (hcs j (by rw [← HN.out]; omega))
        generalize l[j]?.getD 0 = x at hc
        clear hcs hb
        by_cases hx1 : x = 1
        · have t3 : (x == 1) = true := by rw [beq_iff_eq]; exact hx1
          clear hx1
          have C := Lib.hid (lost_any g s wr HT.out HO.out)
          have HO4 := Lib.hid (ok_lost HO.out)
          go_wp2_with fail
          refine C.out.mono ?_; rintro e w4 ⟨rfl, hT4, hg4⟩
          have HT4 := Lib.hid hT4
          have HB4 := Lib.hid (gbelow HB.out (Nat.le_refl _) hg4 HG.out)
          clear C hT4 hg4 HT HB HO hc
          generalize Reno.lost s = s4 at HT4 HO4
          obtain ⟨a4, b4, k4⟩ := s4
          obtain ⟨o1, o2, o3, o4, o5, o6⟩ := HO4.out.nums
          have C := Lib.hid (window_at g a4 b4 k4 w4 HT4.out)
          have IA := Lib.hid (fun W => Go.Proofs.Ytbemlbjnjpjlhaa.Rtt.in_any a4 1 1000 W true (in_true ⟨o1, o2⟩))
          have IB := Lib.hid (fun W => Go.Proofs.Ytbemlbjnjpjlhaa.Rtt.in_any b4 2 1000 W true (in_true ⟨o3, o4⟩))
          clear o1 o2 o3 o4 o5 o6
          go_wp2_with fail
          refine C.out.mono ?_; rintro e w5 ⟨rfl, m5, rfl⟩
          go_wp2_with fail
          refine (IA.out _).mono ?_; rintro e w6 ⟨rfl, rfl⟩
          go_wp2_with fail
          refine (IB.out _).mono ?_; rintro e w7 ⟨rfl, rfl⟩
          go_wp2_with fail
          go_roundw
          case rel => exact ⟨j + 1, by first | rfl | go_num, by omega, (a4, b4, k4), Lib.hid (HT4.out.drewN _), HO4, Lib.hid (bdrewN HB4.out _)⟩
          case measure => simp [intOf]; omega
        · have t3 : (x == 1) = false := by rw [beq_eq_false_iff_ne]; exact hx1
          by_cases hx2 : x = 2
          · have t4 : (x == 2) = true := by rw [beq_iff_eq]; exact hx2
            clear hx1 hx2
            have C := Lib.hid (late_any g s wr HT.out HO.out)
            have HO4 := Lib.hid (ok_late HO.out)
            go_wp2_with fail
            refine C.out.mono ?_; rintro e w4 ⟨rfl, hT4, hg4⟩
            have HT4 := Lib.hid hT4
            have HB4 := Lib.hid (gbelow HB.out (Nat.le_refl _) hg4 HG.out)
            clear C hT4 hg4 HT HB HO hc
            generalize Reno.late s = s4 at HT4 HO4
            obtain ⟨a4, b4, k4⟩ := s4
            obtain ⟨o1, o2, o3, o4, o5, o6⟩ := HO4.out.nums
            have C := Lib.hid (window_at g a4 b4 k4 w4 HT4.out)
            have IA := Lib.hid (fun W => Go.Proofs.Ytbemlbjnjpjlhaa.Rtt.in_any a4 1 1000 W true (in_true ⟨o1, o2⟩))
            have IB := Lib.hid (fun W => Go.Proofs.Ytbemlbjnjpjlhaa.Rtt.in_any b4 2 1000 W true (in_true ⟨o3, o4⟩))
            clear o1 o2 o3 o4 o5 o6
            go_wp2_with fail
            refine C.out.mono ?_; rintro e w5 ⟨rfl, m5, rfl⟩
            go_wp2_with fail
            refine (IA.out _).mono ?_; rintro e w6 ⟨rfl, rfl⟩
            go_wp2_with fail
            refine (IB.out _).mono ?_; rintro e w7 ⟨rfl, rfl⟩
            go_wp2_with fail
            go_roundw
            case rel => exact ⟨j + 1, by first | rfl | go_num, by omega, (a4, b4, k4), Lib.hid (HT4.out.drewN _), HO4, Lib.hid (bdrewN HB4.out _)⟩
            case measure => simp [intOf]; omega
          · have t4 : (x == 2) = false := by rw [beq_eq_false_iff_ne]; exact hx2
            clear hx1 hx2
            have C := Lib.hid (told_any g s wr HT.out HO.out)
            have HO4 := Lib.hid (ok_told HO.out)
            go_wp2_with fail
            refine C.out.mono ?_; rintro e w4 ⟨rfl, hT4, hg4⟩
            have HT4 := Lib.hid hT4
            have HB4 := Lib.hid (gbelow HB.out (Nat.le_refl _) hg4 HG.out)
            clear C hT4 hg4 HT HB HO hc
            generalize Reno.told s = s4 at HT4 HO4
            obtain ⟨a4, b4, k4⟩ := s4
            obtain ⟨o1, o2, o3, o4, o5, o6⟩ := HO4.out.nums
            have C := Lib.hid (window_at g a4 b4 k4 w4 HT4.out)
            have IA := Lib.hid (fun W => Go.Proofs.Ytbemlbjnjpjlhaa.Rtt.in_any a4 1 1000 W true (in_true ⟨o1, o2⟩))
            have IB := Lib.hid (fun W => Go.Proofs.Ytbemlbjnjpjlhaa.Rtt.in_any b4 2 1000 W true (in_true ⟨o3, o4⟩))
            clear o1 o2 o3 o4 o5 o6
            go_wp2_with fail
            refine C.out.mono ?_; rintro e w5 ⟨rfl, m5, rfl⟩
            go_wp2_with fail
            refine (IA.out _).mono ?_; rintro e w6 ⟨rfl, rfl⟩
            go_wp2_with fail
            refine (IB.out _).mono ?_; rintro e w7 ⟨rfl, rfl⟩
            go_wp2_with fail
            go_roundw
            case rel => exact ⟨j + 1, by first | rfl | go_num, by omega, (a4, b4, k4), Lib.hid (HT4.out.drewN _), HO4, Lib.hid (bdrewN HB4.out _)⟩
            case measure => simp [intOf]; omega
      · have t2 : decide ((j : Int) < 400) = false := decide_eq_false (by omega)
        have C := Lib.hid (lost_any g s wr HT.out HO.out)
        obtain ⟨a0, b0, k0⟩ := s
        obtain ⟨o1, o2, o3, o4, o5, o6⟩ := HO.out.nums
        have hh := half_in o1 o2
        clear o1 o2 o3 o4 o5 o6 HT HO
        go_wp2_with fail
        refine C.out.mono ?_; rintro e w4 ⟨rfl, hT4, hg4⟩
        have HT4 : Hid (Flw w4 g (half a0, half a0, 0)) := Lib.hid hT4
        have HB4 := Lib.hid (gbelow HB.out (Nat.le_refl _) hg4 HG.out)
        clear C hT4 hg4 HB
        generalize half a0 = h at HT4 hh
        obtain ⟨h2, h5⟩ := hh
        have C := Lib.hid (window_at g h h 0 w4 HT4.out)
        go_wp2_with fail
        refine C.out.mono ?_; rintro e w5 ⟨rfl, m5, rfl⟩
        have HT5 := Lib.hid (HT4.out.drewN m5)
        have HB5 := Lib.hid (bdrewN HB4.out m5)
        clear C HT4 HB4
        generalize w4.drewN m5 = w5 at HT5 HB5 ⊢
        by_cases ht : 0 ≤ t ∧ t ≤ 900
        · have IN := Lib.hid (fun W => Go.Proofs.Ytbemlbjnjpjlhaa.Rtt.in_any t 0 900 W true (in_true ht))
          obtain ⟨N, rfl⟩ : ∃ N : Nat, t = (N : Int) := ⟨t.toNat, by omega⟩
          have hN : N ≤ 900 := by omega
          clear ht
          go_wp2_with fail
          refine (IN.out _).mono ?_; rintro e w6 ⟨rfl, rfl⟩
          go_wp2_with fail
          have HO5 : Hid (Ok (h, h, 0)) := Lib.hid (by unfold Ok; simp only; omega)
          have E0 := Lib.hid (rfl : tolds N (h, h, 0) = tolds N (h, h, 0))
          go_loopw [12, 13] (fun av lv wr => ∃ (a : Int) (L : Nat), av = .int .i64 a ∧ lv = .int .i64 (L : Int) ∧ L ≤ N ∧ h ≤ a ∧ a ≤ 1000 ∧ Hid (tolds N (h, h, 0) = tolds L (a, h, 0)) ∧ Hid (Flw wr g (h, h, 0)) ∧ Hid (Below w.heap.size w wr)) (fun a _ _ => 1000 - (intOf a).toNat)
          case atStart => exact ⟨h, N, rfl, rfl, Nat.le_refl _, Int.le_refl _, by omega, E0, HT5, HB5⟩
          case round =>
            obtain ⟨a, L, rfl, rfl, hL, hha, ha, E, HT6, HB6⟩ := hrel
            clear E0 HT5 HB5
            by_cases hc : a ≤ (L : Int)
            · have t1 : decide (a ≤ (L : Int)) = true := decide_eq_true hc
              by_cases hd : a < 1000
              · have t2 : decide (a < 1000) = true := decide_eq_true hd
                obtain ⟨m, hm⟩ : ∃ m : Nat, a = (m : Int) := ⟨a.toNat, by omega⟩
                have E1 := Lib.hid (reckon E.out (by omega) hha (by omega) hm.symm (by omega))
                go_wp2_with fail
                go_roundw
                case rel => exact ⟨a + 1, L - m, by first | rfl | go_num, by rw [Int.ofNat_sub (by omega)], by omega, by omega, by omega, E1, HT6, HB6⟩
                case measure => simp [intOf]; omega
              · have t2 : decide (a < 1000) = false := decide_eq_false hd
                have EQ := Lib.hid (reckoned E.out hha (.inl (by omega)))
                clear E
                go_wp2_with fail
                go_loopw [14] (fun iv wr => ∃ j : Nat, iv = .int .i64 (j : Int) ∧ j ≤ N ∧ Hid (Flw wr g (tolds j (h, h, 0))) ∧ Hid (Below w.heap.size w wr)) (fun i _ => N - (intOf i).toNat)
                case atStart => exact ⟨0, rfl, Nat.zero_le _, HT6, HB6⟩
                case round =>
                  obtain ⟨j, rfl, hj, HT, HB⟩ := hrel
                  clear HT6 HB6
                  by_cases hjN : j < N
                  · have t3 : decide ((j : Int) < (N : Int)) = true := decide_eq_true (by omega)
                    have C := Lib.hid (told_any g _ wr HT.out (ok_tolds HO5.out j))
                    rw [← tolds_end] at C
                    clear HT
                    go_wp2_with fail
                    refine C.out.mono ?_; rintro e w8 ⟨rfl, hT8, hg8⟩
                    have HT8 := Lib.hid hT8
                    have HB8 := Lib.hid (gbelow HB.out (Nat.le_refl _) hg8 HG.out)
                    clear C hT8 hg8 HB
                    go_wp2_with fail
                    go_roundw
                    case rel => exact ⟨j + 1, by first | rfl | go_num, by omega, HT8, HB8⟩
                    case measure => simp [intOf]; omega
                  · have t3 : decide ((j : Int) < (N : Int)) = false := decide_eq_false (by omega)
                    obtain rfl : j = N := by omega
                    have C := Lib.hid (window_any g _ wr HT.out)
                    rw [EQ.out] at C
                    go_wp2_with fail
                    refine C.out.mono ?_; rintro e w8 ⟨rfl, m8, rfl⟩
                    go_wp2_with fail
                    go_ret
                    exact ⟨by first | rfl | simp, bdrewN HB.out _⟩
            · have t1 : decide (a ≤ (L : Int)) = false := decide_eq_false hc
              have EQ := Lib.hid (reckoned E.out hha (.inr (by omega)))
              clear E
              go_wp2_with fail
              go_loopw [14] (fun iv wr => ∃ j : Nat, iv = .int .i64 (j : Int) ∧ j ≤ N ∧ Hid (Flw wr g (tolds j (h, h, 0))) ∧ Hid (Below w.heap.size w wr)) (fun i _ => N - (intOf i).toNat)
              case atStart => exact ⟨0, rfl, Nat.zero_le _, HT6, HB6⟩
              case round =>
                obtain ⟨j, rfl, hj, HT, HB⟩ := hrel
                clear HT6 HB6
                by_cases hjN : j < N
                · have t3 : decide ((j : Int) < (N : Int)) = true := decide_eq_true (by omega)
                  have C := Lib.hid (told_any g _ wr HT.out (ok_tolds HO5.out j))
                  rw [← tolds_end] at C
                  clear HT
                  go_wp2_with fail
                  refine C.out.mono ?_; rintro e w8 ⟨rfl, hT8, hg8⟩
                  have HT8 := Lib.hid hT8
                  have HB8 := Lib.hid (gbelow HB.out (Nat.le_refl _) hg8 HG.out)
                  clear C hT8 hg8 HB
                  go_wp2_with fail
                  go_roundw
                  case rel => exact ⟨j + 1, by first | rfl | go_num, by omega, HT8, HB8⟩
                  case measure => simp [intOf]; omega
                · have t3 : decide ((j : Int) < (N : Int)) = false := decide_eq_false (by omega)
                  obtain rfl : j = N := by omega
                  have C := Lib.hid (window_any g _ wr HT.out)
                  rw [EQ.out] at C
                  go_wp2_with fail
                  refine C.out.mono ?_; rintro e w8 ⟨rfl, m8, rfl⟩
                  go_wp2_with fail
                  go_ret
                  exact ⟨by first | rfl | simp, bdrewN HB.out _⟩
        · have IN := Lib.hid (fun W => Go.Proofs.Ytbemlbjnjpjlhaa.Rtt.in_any t 0 900 W false (in_false ht))
          go_wp2_with fail
          refine (IN.out _).mono ?_; rintro e w6 ⟨rfl, rfl⟩
          go_wp2_with fail
          go_ret
          exact ⟨by first | rfl | simp, HB5.out⟩
    · have t1 : decide ((j : Int) < (n : Int)) = false := decide_eq_false (by omega)
      have C := Lib.hid (lost_any g s wr HT.out HO.out)
      obtain ⟨a0, b0, k0⟩ := s
      obtain ⟨o1, o2, o3, o4, o5, o6⟩ := HO.out.nums
      have hh := half_in o1 o2
      clear o1 o2 o3 o4 o5 o6 HT HO
      go_wp2_with fail
      refine C.out.mono ?_; rintro e w4 ⟨rfl, hT4, hg4⟩
      have HT4 : Hid (Flw w4 g (half a0, half a0, 0)) := Lib.hid hT4
      have HB4 := Lib.hid (gbelow HB.out (Nat.le_refl _) hg4 HG.out)
      clear C hT4 hg4 HB
      generalize half a0 = h at HT4 hh
      obtain ⟨h2, h5⟩ := hh
      have C := Lib.hid (window_at g h h 0 w4 HT4.out)
      go_wp2_with fail
      refine C.out.mono ?_; rintro e w5 ⟨rfl, m5, rfl⟩
      have HT5 := Lib.hid (HT4.out.drewN m5)
      have HB5 := Lib.hid (bdrewN HB4.out m5)
      clear C HT4 HB4
      generalize w4.drewN m5 = w5 at HT5 HB5 ⊢
      by_cases ht : 0 ≤ t ∧ t ≤ 900
      · have IN := Lib.hid (fun W => Go.Proofs.Ytbemlbjnjpjlhaa.Rtt.in_any t 0 900 W true (in_true ht))
        obtain ⟨N, rfl⟩ : ∃ N : Nat, t = (N : Int) := ⟨t.toNat, by omega⟩
        have hN : N ≤ 900 := by omega
        clear ht
        go_wp2_with fail
        refine (IN.out _).mono ?_; rintro e w6 ⟨rfl, rfl⟩
        go_wp2_with fail
        have HO5 : Hid (Ok (h, h, 0)) := Lib.hid (by unfold Ok; simp only; omega)
        have E0 := Lib.hid (rfl : tolds N (h, h, 0) = tolds N (h, h, 0))
        go_loopw [12, 13] (fun av lv wr => ∃ (a : Int) (L : Nat), av = .int .i64 a ∧ lv = .int .i64 (L : Int) ∧ L ≤ N ∧ h ≤ a ∧ a ≤ 1000 ∧ Hid (tolds N (h, h, 0) = tolds L (a, h, 0)) ∧ Hid (Flw wr g (h, h, 0)) ∧ Hid (Below w.heap.size w wr)) (fun a _ _ => 1000 - (intOf a).toNat)
        case atStart => exact ⟨h, N, rfl, rfl, Nat.le_refl _, Int.le_refl _, by omega, E0, HT5, HB5⟩
        case round =>
          obtain ⟨a, L, rfl, rfl, hL, hha, ha, E, HT6, HB6⟩ := hrel
          clear E0 HT5 HB5
          by_cases hc : a ≤ (L : Int)
          · have t1 : decide (a ≤ (L : Int)) = true := decide_eq_true hc
            by_cases hd : a < 1000
            · have t2 : decide (a < 1000) = true := decide_eq_true hd
              obtain ⟨m, hm⟩ : ∃ m : Nat, a = (m : Int) := ⟨a.toNat, by omega⟩
              have E1 := Lib.hid (reckon E.out (by omega) hha (by omega) hm.symm (by omega))
              go_wp2_with fail
              go_roundw
              case rel => exact ⟨a + 1, L - m, by first | rfl | go_num, by rw [Int.ofNat_sub (by omega)], by omega, by omega, by omega, E1, HT6, HB6⟩
              case measure => simp [intOf]; omega
            · have t2 : decide (a < 1000) = false := decide_eq_false hd
              have EQ := Lib.hid (reckoned E.out hha (.inl (by omega)))
              clear E
              go_wp2_with fail
              go_loopw [14] (fun iv wr => ∃ j : Nat, iv = .int .i64 (j : Int) ∧ j ≤ N ∧ Hid (Flw wr g (tolds j (h, h, 0))) ∧ Hid (Below w.heap.size w wr)) (fun i _ => N - (intOf i).toNat)
              case atStart => exact ⟨0, rfl, Nat.zero_le _, HT6, HB6⟩
              case round =>
                obtain ⟨j, rfl, hj, HT, HB⟩ := hrel
                clear HT6 HB6
                by_cases hjN : j < N
                · have t3 : decide ((j : Int) < (N : Int)) = true := decide_eq_true (by omega)
                  have C := Lib.hid (told_any g _ wr HT.out (ok_tolds HO5.out j))
                  rw [← tolds_end] at C
                  clear HT
                  go_wp2_with fail
                  refine C.out.mono ?_; rintro e w8 ⟨rfl, hT8, hg8⟩
                  have HT8 := Lib.hid hT8
                  have HB8 := Lib.hid (gbelow HB.out (Nat.le_refl _) hg8 HG.out)
                  clear C hT8 hg8 HB
                  go_wp2_with fail
                  go_roundw
                  case rel => exact ⟨j + 1, by first | rfl | go_num, by omega, HT8, HB8⟩
                  case measure => simp [intOf]; omega
                · have t3 : decide ((j : Int) < (N : Int)) = false := decide_eq_false (by omega)
                  obtain rfl : j = N := by omega
                  have C := Lib.hid (window_any g _ wr HT.out)
                  rw [EQ.out] at C
                  go_wp2_with fail
                  refine C.out.mono ?_; rintro e w8 ⟨rfl, m8, rfl⟩
                  go_wp2_with fail
                  go_ret
                  exact ⟨by first | rfl | simp, bdrewN HB.out _⟩
          · have t1 : decide (a ≤ (L : Int)) = false := decide_eq_false hc
            have EQ := Lib.hid (reckoned E.out hha (.inr (by omega)))
            clear E
            go_wp2_with fail
            go_loopw [14] (fun iv wr => ∃ j : Nat, iv = .int .i64 (j : Int) ∧ j ≤ N ∧ Hid (Flw wr g (tolds j (h, h, 0))) ∧ Hid (Below w.heap.size w wr)) (fun i _ => N - (intOf i).toNat)
            case atStart => exact ⟨0, rfl, Nat.zero_le _, HT6, HB6⟩
            case round =>
              obtain ⟨j, rfl, hj, HT, HB⟩ := hrel
              clear HT6 HB6
              by_cases hjN : j < N
              · have t3 : decide ((j : Int) < (N : Int)) = true := decide_eq_true (by omega)
                have C := Lib.hid (told_any g _ wr HT.out (ok_tolds HO5.out j))
                rw [← tolds_end] at C
                clear HT
                go_wp2_with fail
                refine C.out.mono ?_; rintro e w8 ⟨rfl, hT8, hg8⟩
                have HT8 := Lib.hid hT8
                have HB8 := Lib.hid (gbelow HB.out (Nat.le_refl _) hg8 HG.out)
                clear C hT8 hg8 HB
                go_wp2_with fail
                go_roundw
                case rel => exact ⟨j + 1, by first | rfl | go_num, by omega, HT8, HB8⟩
                case measure => simp [intOf]; omega
              · have t3 : decide ((j : Int) < (N : Int)) = false := decide_eq_false (by omega)
                obtain rfl : j = N := by omega
                have C := Lib.hid (window_any g _ wr HT.out)
                rw [EQ.out] at C
                go_wp2_with fail
                refine C.out.mono ?_; rintro e w8 ⟨rfl, m8, rfl⟩
                go_wp2_with fail
                go_ret
                exact ⟨by first | rfl | simp, bdrewN HB.out _⟩
      · have IN := Lib.hid (fun W => Go.Proofs.Ytbemlbjnjpjlhaa.Rtt.in_any t 0 900 W false (in_false ht))
        go_wp2_with fail
        refine (IN.out _).mono ?_; rintro e w6 ⟨rfl, rfl⟩
        go_wp2_with fail
        go_ret
        exact ⟨by first | rfl | simp, HB5.out⟩

theorem reads : Try.f3.params.toList.all (fun t => Try.prog.readableRec t && decide (t < Try.prog.types.size)) = true := by kernel_rfl

theorem contract (H : Type) (enc : TypeId × Value → H) (W : World) (base : Nat) (args : Array Value) (ds gs : List (DataW H)) (before : List MemPlace)
    (hval : ∀ (j : Nat) t v, Try.f3.params[j]? = some t → args[j]? = some v → Value.okWide Try.prog W .any base t v)
    (hW : DataW.Whole enc Try.prog Try.f3.params.toList Rows.renoSlowSpec.vars false W args.toList ds gs before) :
    Calls Try.prog 3 args W fun e W' => ∃ v, e = .returned v ∧ Rows.renoSlowSpec.post enc Try.prog Try.f3 false true false false W args v W' := by
  have hW' := hW
  obtain ⟨p, q, hA0, hV, rfl, hfz, hnd⟩ := hW
  have hA : DataW.TrodAll enc Try.prog W 0 (fun _ => true) true Try.f3.params.toList args.toList ds p := hA0
  have hlt := hA.lt
  rw [Try.params3] at hA hval
  obtain ⟨v0, vs0, d0, ds0, p0, q0, hargs, rfl, rfl, h0, r0⟩ := trodAll_cons hA
  obtain ⟨v1, vs1, d1, ds1, p1, q1, hvs1, rfl, rfl, h1, r1⟩ := trodAll_cons r0
  obtain ⟨hvsn, rfl, rfl⟩ := trodAll_nil r1
  simp only [hvsn, hvs1] at hargs
  obtain rfl : args = #[v0, v1] := by cases args; simp_all
  obtain ⟨rfl, rfl⟩ := trodVars_none hV
  clear hA0
  obtain ⟨p0a, cap0, l0, rfl, i0⟩ := open_intsl Try.underlying22 Try.underlying3 (by kernel_rfl) (hval 0 22 v0 rfl rfl) h0 (fun x hx => hlt x (by simp [hx]))
  obtain ⟨a1, rfl, rfl, rfl, w1⟩ := open_int Try.underlying3 (hval 1 3 v1 rfl rfl) h1
  have b1 := bounds_int w1
  exact law_post 4 laid reads rfl Try.underlying4 rfl hW' ⟨rfl, rfl, rfl⟩ (core p0a cap0 _ l0 a1 W rfl i0 b1)

set_option maxRecDepth 100000 in
theorem lifted (os : Os) (started : os.Started) (H : Type) (enc : TypeId × Value → H) :
    ReturnsInHanded {} Try.checked os 3 .any (Rows.renoSlowSpec.pre6 enc Try.prog Try.f3 Rows.renoSlowRow.domain false) (Rows.renoSlowSpec.post enc Try.prog Try.f3 false true false false) := by
  refine returnsInHanded_of_change (C := Try.checked) own started (by kernel_rfl) Try.func3
    (ChangeSpec.witness6 (enc := enc) (C := Try.checked) false ⟨#[], #[.slice none 0 0, .int .i64 0], []⟩ 8 (by kernel_rfl) (by kernel_rfl) (by kernel_rfl) (by kernel_rfl)) ?_
  intro W base args ds gs before hval hW _ _
  exact contract H enc W base args ds gs before hval hW

theorem proved : Rows.RenoSlowSaid :=
  OpenClaim.holds_of_wide 3 Try.f3 rfl rfl rfl rfl rfl rfl rfl ⟨rfl, rfl, rfl, rfl, rfl⟩ rfl rfl rfl rfl rfl (by kernel_rfl) Try.func3 (by kernel_rfl)
    (of_decide_eq_true (by kernel_rfl)) (by unfold Func.isWrapper; first | (rw [if_pos (by decide +kernel)]; kernel_rfl) | (rw [if_neg (by decide +kernel)]; exact ⟨rfl, rfl⟩))
    (fun os started H enc _ => lifted os started H enc)
end Go.Proofs.Ytbemlbjnjpjlhaa.RenoSlowL
