/- What is lost halves the window; what is late makes it begin anew and grow fast up to that half: the law returns true for every input. No condition. -/
import Derived.Test.YtbemlbjnjpjlhaaRenoLaw
namespace Go.Proofs.Ytbemlbjnjpjlhaa.RenoLostL
open Go.ChangeShapes Go.WideShapes Go.ChangeAt Go.RowKit Go.Proofs.Ytbemlbjnjpjlhaa.Kit Go.Proofs.Ytbemlbjnjpjlhaa.App Go.Proofs.Ytbemlbjnjpjlhaa.Err Go.Proofs.Ytbemlbjnjpjlhaa.Reno
set_option linter.unusedVariables false
set_option maxRecDepth 20000

abbrev Law (n : Int) (b : Bool) (t : Int) (w : World) : Prop := Calls Try.prog 4 #[.int .i64 n, .bool b, .int .i64 t] w fun e w' => e = .returned (.bool true) ∧ Below w.heap.size w w'
theorem told_top {a k : Int} (h : 1 ≤ a) (h2 : a ≤ 1000) : ∃ a', told (a, 1000, k) = (a', 1000, k) ∧ 1 ≤ a' ∧ a' ≤ 1000 := by
  by_cases h1 : a = 1000
  · rw [h1, told_full]; exact ⟨1000, rfl, by omega, by omega⟩
  · rw [told_fast h1 (by omega)]; exact ⟨a + 1, rfl, by omega, by omega⟩
set_option maxHeartbeats 2000000 in
theorem core_true (n t : Int) (w : World) (hn0 : -9223372036854775808 ≤ n ∧ n ≤ 9223372036854775807) (ht0 : -9223372036854775808 ≤ t ∧ t ≤ 9223372036854775807) : Law n true t w := by
  have FA := Lib.hid (fact_any w)
  have NW := Lib.hid (fun W => new_any W)
  unfold Law
  go_enter Try.func4, Try.ntmps4
  go_wp2_with fail
  refine FA.out.mono ?_; rintro e w1 ⟨rfl, hb1⟩
  clear FA
  go_wp2_with fail
  refine (NW.out w1).mono ?_; rintro e w2 ⟨rfl, hT2, hb2⟩
  have HB2 := Lib.hid (bcall hb1 hb2)
  have HG := Lib.hid hb1.size
  have HT2 := Lib.hid hT2
  clear hb1 hb2 hT2 NW
  generalize w1.heap.size = g at HT2 HG ⊢
  go_wp2_with fail
  go_loopw [9] (fun iv wr => ∃ j : Nat, iv = .int .i64 (j : Int) ∧ j ≤ 2000 ∧ ∃ a, 1 ≤ a ∧ a ≤ 1000 ∧ Hid (Flw wr g (a, 1000, 0)) ∧ Hid (Below w.heap.size w wr)) (fun i _ => 2000 - (intOf i).toNat)
  case atStart => exact ⟨0, rfl, Nat.zero_le _, 1, by omega, by omega, HT2, HB2⟩
  case round =>
    obtain ⟨j, rfl, hj, a, ha1, ha2, HT, HB⟩ := hrel
    clear HT2 HB2
    by_cases hjn : (j : Int) < n
    · have t1 : decide ((j : Int) < n) = true := decide_eq_true hjn
      by_cases hj60 : j < 2000
      · have t2 : decide ((j : Int) < 2000) = true := decide_eq_true (by omega)
        have C := Lib.hid (told_any g _ wr HT.out (by unfold Ok; simp only; omega))
        obtain ⟨a', e', h1', h2'⟩ := told_top (k := 0) ha1 ha2
        rw [e'] at C
        clear HT e'
        go_wp2_with fail
        refine C.out.mono ?_; rintro e w8 ⟨rfl, hT8, hg8⟩
        have HT8 := Lib.hid hT8
        have HB8 := Lib.hid (gbelow HB.out (Nat.le_refl _) hg8 HG.out)
        clear C hT8 hg8 HB
        go_wp2_with fail
        go_roundw
        case rel => exact ⟨j + 1, by first | rfl | go_num, by omega, a', h1', h2', HT8, HB8⟩
        case measure => simp [intOf]; omega
      · have t2 : decide ((j : Int) < 2000) = false := decide_eq_false (by omega)
        have C := Lib.hid (window_at g _ _ _ wr HT.out)
        go_wp2_with fail
        refine C.out.mono ?_; rintro e w3 ⟨rfl, m3, rfl⟩
        have HT3 := Lib.hid (HT.out.drewN m3)
        have HB3 := Lib.hid (bdrewN HB.out m3)
        clear C HT HB
        generalize wr.drewN m3 = w3 at HT3 HB3 ⊢
        have hO3 : Ok (a, 1000, 0) := by unfold Ok; simp only; omega
        obtain ⟨d, hdd⟩ : ∃ d, a.tdiv 2 = d := ⟨_, rfl⟩
        have hdb : 0 ≤ d ∧ d ≤ 500 := by rw [← hdd, Int.tdiv_eq_ediv_of_nonneg (by omega)]; omega
        obtain ⟨d1, d2⟩ := hdb
        by_cases hd : d < 2
        · have t5 : decide (d < 2) = true := decide_eq_true hd
          have eh : half a = 2 := by unfold half; rw [hdd, if_pos hd]
          have C := Lib.hid (late_any g _ w3 HT3.out hO3)
          go_wp2_with fail
          refine C.out.mono ?_; rintro e w4 ⟨rfl, hT, hg⟩
          have HT4 := Lib.hid hT
          have HB4 := Lib.hid (gbelow HB3.out (Nat.le_refl _) hg HG.out)
          clear C hT hg HT3 HB3
          have HT4 : Hid (Flw w4 g (1, half a, 0)) := HT4
          rw [eh] at HT4
          have C := Lib.hid (window_at g _ _ _ w4 HT4.out)
          go_wp2_with fail
          refine C.out.mono ?_; rintro e w5 ⟨rfl, m5, rfl⟩
          have HT5 := Lib.hid (HT4.out.drewN m5)
          have HB5 := Lib.hid (bdrewN HB4.out m5)
          clear C HT4 HB4
          generalize w4.drewN m5 = w5 at HT5 HB5 ⊢
          by_cases hg : 0 ≤ t ∧ t ≤ 1
          · have IN := Lib.hid (fun W => Go.Proofs.Ytbemlbjnjpjlhaa.Rtt.in_any t 0 (1) W true (in_true hg))
            obtain ⟨N, rfl⟩ : ∃ N : Nat, t = (N : Int) := ⟨t.toNat, by omega⟩
            obtain ⟨hg1, hg2⟩ := hg
            go_wp2_with fail
            refine (IN.out _).mono ?_; rintro e w6 ⟨rfl, rfl⟩
            obtain ⟨h, hh⟩ : ∃ h : Int, 2 = h := ⟨_, rfl⟩
            rw [hh] at HT5
            clear eh hdd
            go_wp2_with fail
            go_loopw [15] (fun iv wr => ∃ j : Nat, iv = .int .i64 (j : Int) ∧ j ≤ N ∧ Hid (Flw wr g (1 + (j : Int), h, 0)) ∧ Hid (Below w.heap.size w wr)) (fun i _ => N - (intOf i).toNat)
            case atStart => exact ⟨0, rfl, Nat.zero_le _, HT5, HB5⟩
            case round =>
              obtain ⟨j, rfl, hj, HT, HB⟩ := hrel
              clear HT5 HB5
              by_cases hjN : j < N
              · have t3 : decide ((j : Int) < (N : Int)) = true := decide_eq_true (by omega)
                have C := Lib.hid (told_any g _ wr HT.out (by unfold Ok; simp only; omega))
                rw [told_fast (by omega) (by omega)] at C
                clear HT
                go_wp2_with fail
                refine C.out.mono ?_; rintro e w8 ⟨rfl, hT8, hg8⟩
                have e3 : (1 : Int) + (j : Int) + 1 = 1 + ((j + 1 : Nat) : Int) := by omega
                rw [e3] at hT8
                have HT8 := Lib.hid hT8
                have HB8 := Lib.hid (gbelow HB.out (Nat.le_refl _) hg8 HG.out)
                clear C hT8 hg8 HB
                go_wp2_with fail
                go_roundw
                case rel => exact ⟨j + 1, by first | rfl | go_num, by omega, HT8, HB8⟩
                case measure => simp [intOf]; omega
              · have t3 : decide ((j : Int) < (N : Int)) = false := decide_eq_false (by omega)
                obtain rfl : j = N := by omega
                have C := Lib.hid (window_at g _ _ _ wr HT.out)
                go_wp2_with fail
                refine C.out.mono ?_; rintro e w8 ⟨rfl, m8, rfl⟩
                go_wp2_with fail
                go_ret
                exact ⟨by first | rfl | simp, bdrewN HB.out _⟩
          · have IN := Lib.hid (fun W => Go.Proofs.Ytbemlbjnjpjlhaa.Rtt.in_any t 0 (1) W false (in_false hg))
            go_wp2_with fail
            refine (IN.out _).mono ?_; rintro e w6 ⟨rfl, rfl⟩
            go_wp2_with fail
            go_ret
            exact ⟨by first | rfl | simp, HB5.out⟩
        · have t5 : decide (d < 2) = false := decide_eq_false hd
          have eh : half a = d := by unfold half; rw [hdd, if_neg hd]
          have C := Lib.hid (late_any g _ w3 HT3.out hO3)
          go_wp2_with fail
          refine C.out.mono ?_; rintro e w4 ⟨rfl, hT, hg⟩
          have HT4 := Lib.hid hT
          have HB4 := Lib.hid (gbelow HB3.out (Nat.le_refl _) hg HG.out)
          clear C hT hg HT3 HB3
          have HT4 : Hid (Flw w4 g (1, half a, 0)) := HT4
          rw [eh] at HT4
          have C := Lib.hid (window_at g _ _ _ w4 HT4.out)
          go_wp2_with fail
          refine C.out.mono ?_; rintro e w5 ⟨rfl, m5, rfl⟩
          have HT5 := Lib.hid (HT4.out.drewN m5)
          have HB5 := Lib.hid (bdrewN HB4.out m5)
          clear C HT4 HB4
          generalize w4.drewN m5 = w5 at HT5 HB5 ⊢
          by_cases hg : 0 ≤ t ∧ t ≤ d - 1
          · have IN := Lib.hid (fun W => Go.Proofs.Ytbemlbjnjpjlhaa.Rtt.in_any t 0 (d - 1) W true (in_true hg))
            obtain ⟨N, rfl⟩ : ∃ N : Nat, t = (N : Int) := ⟨t.toNat, by omega⟩
            obtain ⟨hg1, hg2⟩ := hg
            go_wp2_with fail
            refine (IN.out _).mono ?_; rintro e w6 ⟨rfl, rfl⟩
            obtain ⟨h, hh⟩ : ∃ h : Int, d = h := ⟨_, rfl⟩
            rw [hh] at HT5
            clear eh hdd
            go_wp2_with fail
            go_loopw [15] (fun iv wr => ∃ j : Nat, iv = .int .i64 (j : Int) ∧ j ≤ N ∧ Hid (Flw wr g (1 + (j : Int), h, 0)) ∧ Hid (Below w.heap.size w wr)) (fun i _ => N - (intOf i).toNat)
            case atStart => exact ⟨0, rfl, Nat.zero_le _, HT5, HB5⟩
            case round =>
              obtain ⟨j, rfl, hj, HT, HB⟩ := hrel
              clear HT5 HB5
              by_cases hjN : j < N
              · have t3 : decide ((j : Int) < (N : Int)) = true := decide_eq_true (by omega)
                have C := Lib.hid (told_any g _ wr HT.out (by unfold Ok; simp only; omega))
                rw [told_fast (by omega) (by omega)] at C
                clear HT
                go_wp2_with fail
                refine C.out.mono ?_; rintro e w8 ⟨rfl, hT8, hg8⟩
                have e3 : (1 : Int) + (j : Int) + 1 = 1 + ((j + 1 : Nat) : Int) := by omega
                rw [e3] at hT8
                have HT8 := Lib.hid hT8
                have HB8 := Lib.hid (gbelow HB.out (Nat.le_refl _) hg8 HG.out)
                clear C hT8 hg8 HB
                go_wp2_with fail
                go_roundw
                case rel => exact ⟨j + 1, by first | rfl | go_num, by omega, HT8, HB8⟩
                case measure => simp [intOf]; omega
              · have t3 : decide ((j : Int) < (N : Int)) = false := decide_eq_false (by omega)
                obtain rfl : j = N := by omega
                have C := Lib.hid (window_at g _ _ _ wr HT.out)
                go_wp2_with fail
                refine C.out.mono ?_; rintro e w8 ⟨rfl, m8, rfl⟩
                go_wp2_with fail
                go_ret
                exact ⟨by first | rfl | simp, bdrewN HB.out _⟩
          · have IN := Lib.hid (fun W => Go.Proofs.Ytbemlbjnjpjlhaa.Rtt.in_any t 0 (d - 1) W false (in_false hg))
            go_wp2_with fail
            refine (IN.out _).mono ?_; rintro e w6 ⟨rfl, rfl⟩
            go_wp2_with fail
            go_ret
            exact ⟨by first | rfl | simp, HB5.out⟩
    · have t1 : decide ((j : Int) < n) = false := decide_eq_false hjn
      have C := Lib.hid (window_at g _ _ _ wr HT.out)
      go_wp2_with fail
      refine C.out.mono ?_; rintro e w3 ⟨rfl, m3, rfl⟩
      have HT3 := Lib.hid (HT.out.drewN m3)
      have HB3 := Lib.hid (bdrewN HB.out m3)
      clear C HT HB
      generalize wr.drewN m3 = w3 at HT3 HB3 ⊢
      have hO3 : Ok (a, 1000, 0) := by unfold Ok; simp only; omega
      obtain ⟨d, hdd⟩ : ∃ d, a.tdiv 2 = d := ⟨_, rfl⟩
      have hdb : 0 ≤ d ∧ d ≤ 500 := by rw [← hdd, Int.tdiv_eq_ediv_of_nonneg (by omega)]; omega
      obtain ⟨d1, d2⟩ := hdb
      by_cases hd : d < 2
      · have t5 : decide (d < 2) = true := decide_eq_true hd
        have eh : half a = 2 := by unfold half; rw [hdd, if_pos hd]
        have C := Lib.hid (late_any g _ w3 HT3.out hO3)
        go_wp2_with fail
        refine C.out.mono ?_; rintro e w4 ⟨rfl, hT, hg⟩
        have HT4 := Lib.hid hT
        have HB4 := Lib.hid (gbelow HB3.out (Nat.le_refl _) hg HG.out)
        clear C hT hg HT3 HB3
        have HT4 : Hid (Flw w4 g (1, half a, 0)) := HT4
        rw [eh] at HT4
        have C := Lib.hid (window_at g _ _ _ w4 HT4.out)
        go_wp2_with fail
        refine C.out.mono ?_; rintro e w5 ⟨rfl, m5, rfl⟩
        have HT5 := Lib.hid (HT4.out.drewN m5)
        have HB5 := Lib.hid (bdrewN HB4.out m5)
        clear C HT4 HB4
        generalize w4.drewN m5 = w5 at HT5 HB5 ⊢
        by_cases hg : 0 ≤ t ∧ t ≤ 1
        · have IN := Lib.hid (fun W => Go.Proofs.Ytbemlbjnjpjlhaa.Rtt.in_any t 0 (1) W true (in_true hg))
          obtain ⟨N, rfl⟩ : ∃ N : Nat, t = (N : Int) := ⟨t.toNat, by omega⟩
          obtain ⟨hg1, hg2⟩ := hg
          go_wp2_with fail
          refine (IN.out _).mono ?_; rintro e w6 ⟨rfl, rfl⟩
          obtain ⟨h, hh⟩ : ∃ h : Int, 2 = h := ⟨_, rfl⟩
          rw [hh] at HT5
          clear eh hdd
          go_wp2_with fail
          go_loopw [15] (fun iv wr => ∃ j : Nat, iv = .int .i64 (j : Int) ∧ j ≤ N ∧ Hid (Flw wr g (1 + (j : Int), h, 0)) ∧ Hid (Below w.heap.size w wr)) (fun i _ => N - (intOf i).toNat)
          case atStart => exact ⟨0, rfl, Nat.zero_le _, HT5, HB5⟩
          case round =>
            obtain ⟨j, rfl, hj, HT, HB⟩ := hrel
            clear HT5 HB5
            by_cases hjN : j < N
            · have t3 : decide ((j : Int) < (N : Int)) = true := decide_eq_true (by omega)
              have C := Lib.hid (told_any g _ wr HT.out (by unfold Ok; simp only; omega))
              rw [told_fast (by omega) (by omega)] at C
              clear HT
              go_wp2_with fail
              refine C.out.mono ?_; rintro e w8 ⟨rfl, hT8, hg8⟩
              have e3 : (1 : Int) + (j : Int) + 1 = 1 + ((j + 1 : Nat) : Int) := by omega
              rw [e3] at hT8
              have HT8 := Lib.hid hT8
              have HB8 := Lib.hid (gbelow HB.out (Nat.le_refl _) hg8 HG.out)
              clear C hT8 hg8 HB
              go_wp2_with fail
              go_roundw
              case rel => exact ⟨j + 1, by first | rfl | go_num, by omega, HT8, HB8⟩
              case measure => simp [intOf]; omega
            · have t3 : decide ((j : Int) < (N : Int)) = false := decide_eq_false (by omega)
              obtain rfl : j = N := by omega
              have C := Lib.hid (window_at g _ _ _ wr HT.out)
              go_wp2_with fail
              refine C.out.mono ?_; rintro e w8 ⟨rfl, m8, rfl⟩
              go_wp2_with fail
              go_ret
              exact ⟨by first | rfl | simp, bdrewN HB.out _⟩
        · have IN := Lib.hid (fun W => Go.Proofs.Ytbemlbjnjpjlhaa.Rtt.in_any t 0 (1) W false (in_false hg))
          go_wp2_with fail
          refine (IN.out _).mono ?_; rintro e w6 ⟨rfl, rfl⟩
          go_wp2_with fail
          go_ret
          exact ⟨by first | rfl | simp, HB5.out⟩
      · have t5 : decide (d < 2) = false := decide_eq_false hd
        have eh : half a = d := by unfold half; rw [hdd, if_neg hd]
        have C := Lib.hid (late_any g _ w3 HT3.out hO3)
        go_wp2_with fail
        refine C.out.mono ?_; rintro e w4 ⟨rfl, hT, hg⟩
        have HT4 := Lib.hid hT
        have HB4 := Lib.hid (gbelow HB3.out (Nat.le_refl _) hg HG.out)
        clear C hT hg HT3 HB3
        have HT4 : Hid (Flw w4 g (1, half a, 0)) := HT4
        rw [eh] at HT4
        have C := Lib.hid (window_at g _ _ _ w4 HT4.out)
        go_wp2_with fail
        refine C.out.mono ?_; rintro e w5 ⟨rfl, m5, rfl⟩
        have HT5 := Lib.hid (HT4.out.drewN m5)
        have HB5 := Lib.hid (bdrewN HB4.out m5)
        clear C HT4 HB4
        generalize w4.drewN m5 = w5 at HT5 HB5 ⊢
        by_cases hg : 0 ≤ t ∧ t ≤ d - 1
        · have IN := Lib.hid (fun W => Go.Proofs.Ytbemlbjnjpjlhaa.Rtt.in_any t 0 (d - 1) W true (in_true hg))
          obtain ⟨N, rfl⟩ : ∃ N : Nat, t = (N : Int) := ⟨t.toNat, by omega⟩
          obtain ⟨hg1, hg2⟩ := hg
          go_wp2_with fail
          refine (IN.out _).mono ?_; rintro e w6 ⟨rfl, rfl⟩
          obtain ⟨h, hh⟩ : ∃ h : Int, d = h := ⟨_, rfl⟩
          rw [hh] at HT5
          clear eh hdd
          go_wp2_with fail
          go_loopw [15] (fun iv wr => ∃ j : Nat, iv = .int .i64 (j : Int) ∧ j ≤ N ∧ Hid (Flw wr g (1 + (j : Int), h, 0)) ∧ Hid (Below w.heap.size w wr)) (fun i _ => N - (intOf i).toNat)
          case atStart => exact ⟨0, rfl, Nat.zero_le _, HT5, HB5⟩
          case round =>
            obtain ⟨j, rfl, hj, HT, HB⟩ := hrel
            clear HT5 HB5
            by_cases hjN : j < N
            · have t3 : decide ((j : Int) < (N : Int)) = true := decide_eq_true (by omega)
              have C := Lib.hid (told_any g _ wr HT.out (by unfold Ok; simp only; omega))
              rw [told_fast (by omega) (by omega)] at C
              clear HT
              go_wp2_with fail
              refine C.out.mono ?_; rintro e w8 ⟨rfl, hT8, hg8⟩
              have e3 : (1 : Int) + (j : Int) + 1 = 1 + ((j + 1 : Nat) : Int) := by omega
              rw [e3] at hT8
              have HT8 := Lib.hid hT8
              have HB8 := Lib.hid (gbelow HB.out (Nat.le_refl _) hg8 HG.out)
              clear C hT8 hg8 HB
              go_wp2_with fail
              go_roundw
              case rel => exact ⟨j + 1, by first | rfl | go_num, by omega, HT8, HB8⟩
              case measure => simp [intOf]; omega
            · have t3 : decide ((j : Int) < (N : Int)) = false := decide_eq_false (by omega)
              obtain rfl : j = N := by omega
              have C := Lib.hid (window_at g _ _ _ wr HT.out)
              go_wp2_with fail
              refine C.out.mono ?_; rintro e w8 ⟨rfl, m8, rfl⟩
              go_wp2_with fail
              go_ret
              exact ⟨by first | rfl | simp, bdrewN HB.out _⟩
        · have IN := Lib.hid (fun W => Go.Proofs.Ytbemlbjnjpjlhaa.Rtt.in_any t 0 (d - 1) W false (in_false hg))
          go_wp2_with fail
          refine (IN.out _).mono ?_; rintro e w6 ⟨rfl, rfl⟩
          go_wp2_with fail
          go_ret
          exact ⟨by first | rfl | simp, HB5.out⟩
set_option maxHeartbeats 2000000 in
theorem core_false (n t : Int) (w : World) (hn0 : -9223372036854775808 ≤ n ∧ n ≤ 9223372036854775807) (ht0 : -9223372036854775808 ≤ t ∧ t ≤ 9223372036854775807) : Law n false t w := by
  have FA := Lib.hid (fact_any w)
  have NW := Lib.hid (fun W => new_any W)
  unfold Law
  go_enter Try.func4, Try.ntmps4
  go_wp2_with fail
  refine FA.out.mono ?_; rintro e w1 ⟨rfl, hb1⟩
  clear FA
  go_wp2_with fail
  refine (NW.out w1).mono ?_; rintro e w2 ⟨rfl, hT2, hb2⟩
  have HB2 := Lib.hid (bcall hb1 hb2)
  have HG := Lib.hid hb1.size
  have HT2 := Lib.hid hT2
  clear hb1 hb2 hT2 NW
  generalize w1.heap.size = g at HT2 HG ⊢
  go_wp2_with fail
  go_loopw [9] (fun iv wr => ∃ j : Nat, iv = .int .i64 (j : Int) ∧ j ≤ 2000 ∧ ∃ a, 1 ≤ a ∧ a ≤ 1000 ∧ Hid (Flw wr g (a, 1000, 0)) ∧ Hid (Below w.heap.size w wr)) (fun i _ => 2000 - (intOf i).toNat)
  case atStart => exact ⟨0, rfl, Nat.zero_le _, 1, by omega, by omega, HT2, HB2⟩
  case round =>
    obtain ⟨j, rfl, hj, a, ha1, ha2, HT, HB⟩ := hrel
    clear HT2 HB2
    by_cases hjn : (j : Int) < n
    · have t1 : decide ((j : Int) < n) = true := decide_eq_true hjn
      by_cases hj60 : j < 2000
      · have t2 : decide ((j : Int) < 2000) = true := decide_eq_true (by omega)
        have C := Lib.hid (told_any g _ wr HT.out (by unfold Ok; simp only; omega))
        obtain ⟨a', e', h1', h2'⟩ := told_top (k := 0) ha1 ha2
        rw [e'] at C
        clear HT e'
        go_wp2_with fail
        refine C.out.mono ?_; rintro e w8 ⟨rfl, hT8, hg8⟩
        have HT8 := Lib.hid hT8
        have HB8 := Lib.hid (gbelow HB.out (Nat.le_refl _) hg8 HG.out)
        clear C hT8 hg8 HB
        go_wp2_with fail
        go_roundw
        case rel => exact ⟨j + 1, by first | rfl | go_num, by omega, a', h1', h2', HT8, HB8⟩
        case measure => simp [intOf]; omega
      · have t2 : decide ((j : Int) < 2000) = false := decide_eq_false (by omega)
        have C := Lib.hid (window_at g _ _ _ wr HT.out)
        go_wp2_with fail
        refine C.out.mono ?_; rintro e w3 ⟨rfl, m3, rfl⟩
        have HT3 := Lib.hid (HT.out.drewN m3)
        have HB3 := Lib.hid (bdrewN HB.out m3)
        clear C HT HB
        generalize wr.drewN m3 = w3 at HT3 HB3 ⊢
        have hO3 : Ok (a, 1000, 0) := by unfold Ok; simp only; omega
        obtain ⟨d, hdd⟩ : ∃ d, a.tdiv 2 = d := ⟨_, rfl⟩
        have hdb : 0 ≤ d ∧ d ≤ 500 := by rw [← hdd, Int.tdiv_eq_ediv_of_nonneg (by omega)]; omega
        obtain ⟨d1, d2⟩ := hdb
        by_cases hd : d < 2
        · have t5 : decide (d < 2) = true := decide_eq_true hd
          have eh : half a = 2 := by unfold half; rw [hdd, if_pos hd]
          have C := Lib.hid (lost_any g _ w3 HT3.out hO3)
          go_wp2_with fail
          refine C.out.mono ?_; rintro e w4 ⟨rfl, hT, hg⟩
          have HT4 := Lib.hid hT
          have HB4 := Lib.hid (gbelow HB3.out (Nat.le_refl _) hg HG.out)
          clear C hT hg HT3 HB3
          have HT4 : Hid (Flw w4 g (half a, half a, 0)) := HT4
          rw [eh] at HT4
          have C := Lib.hid (window_at g _ _ _ w4 HT4.out)
          go_wp2_with fail
          refine C.out.mono ?_; rintro e w5 ⟨rfl, m5, rfl⟩
          have HT5 := Lib.hid (HT4.out.drewN m5)
          have HB5 := Lib.hid (bdrewN HB4.out m5)
          clear C HT4 HB4
          generalize w4.drewN m5 = w5 at HT5 HB5 ⊢
          go_wp2_with fail
          go_ret
          exact ⟨by first | rfl | simp, HB5.out⟩
        · have t5 : decide (d < 2) = false := decide_eq_false hd
          have eh : half a = d := by unfold half; rw [hdd, if_neg hd]
          have C := Lib.hid (lost_any g _ w3 HT3.out hO3)
          go_wp2_with fail
          refine C.out.mono ?_; rintro e w4 ⟨rfl, hT, hg⟩
          have HT4 := Lib.hid hT
          have HB4 := Lib.hid (gbelow HB3.out (Nat.le_refl _) hg HG.out)
          clear C hT hg HT3 HB3
          have HT4 : Hid (Flw w4 g (half a, half a, 0)) := HT4
          rw [eh] at HT4
          have C := Lib.hid (window_at g _ _ _ w4 HT4.out)
          go_wp2_with fail
          refine C.out.mono ?_; rintro e w5 ⟨rfl, m5, rfl⟩
          have HT5 := Lib.hid (HT4.out.drewN m5)
          have HB5 := Lib.hid (bdrewN HB4.out m5)
          clear C HT4 HB4
          generalize w4.drewN m5 = w5 at HT5 HB5 ⊢
          go_wp2_with fail
          go_ret
          exact ⟨by first | rfl | simp, HB5.out⟩
    · have t1 : decide ((j : Int) < n) = false := decide_eq_false hjn
      have C := Lib.hid (window_at g _ _ _ wr HT.out)
      go_wp2_with fail
      refine C.out.mono ?_; rintro e w3 ⟨rfl, m3, rfl⟩
      have HT3 := Lib.hid (HT.out.drewN m3)
      have HB3 := Lib.hid (bdrewN HB.out m3)
      clear C HT HB
      generalize wr.drewN m3 = w3 at HT3 HB3 ⊢
      have hO3 : Ok (a, 1000, 0) := by unfold Ok; simp only; omega
      obtain ⟨d, hdd⟩ : ∃ d, a.tdiv 2 = d := ⟨_, rfl⟩
      have hdb : 0 ≤ d ∧ d ≤ 500 := by rw [← hdd, Int.tdiv_eq_ediv_of_nonneg (by omega)]; omega
      obtain ⟨d1, d2⟩ := hdb
      by_cases hd : d < 2
      · have t5 : decide (d < 2) = true := decide_eq_true hd
        have eh : half a = 2 := by unfold half; rw [hdd, if_pos hd]
        have C := Lib.hid (lost_any g _ w3 HT3.out hO3)
        go_wp2_with fail
        refine C.out.mono ?_; rintro e w4 ⟨rfl, hT, hg⟩
        have HT4 := Lib.hid hT
        have HB4 := Lib.hid (gbelow HB3.out (Nat.le_refl _) hg HG.out)
        clear C hT hg HT3 HB3
        have HT4 : Hid (Flw w4 g (half a, half a, 0)) := HT4
        rw [eh] at HT4
        have C := Lib.hid (window_at g _ _ _ w4 HT4.out)
        go_wp2_with fail
        refine C.out.mono ?_; rintro e w5 ⟨rfl, m5, rfl⟩
        have HT5 := Lib.hid (HT4.out.drewN m5)
        have HB5 := Lib.hid (bdrewN HB4.out m5)
        clear C HT4 HB4
        generalize w4.drewN m5 = w5 at HT5 HB5 ⊢
        go_wp2_with fail
        go_ret
        exact ⟨by first | rfl | simp, HB5.out⟩
      · have t5 : decide (d < 2) = false := decide_eq_false hd
        have eh : half a = d := by unfold half; rw [hdd, if_neg hd]
        have C := Lib.hid (lost_any g _ w3 HT3.out hO3)
        go_wp2_with fail
        refine C.out.mono ?_; rintro e w4 ⟨rfl, hT, hg⟩
        have HT4 := Lib.hid hT
        have HB4 := Lib.hid (gbelow HB3.out (Nat.le_refl _) hg HG.out)
        clear C hT hg HT3 HB3
        have HT4 : Hid (Flw w4 g (half a, half a, 0)) := HT4
        rw [eh] at HT4
        have C := Lib.hid (window_at g _ _ _ w4 HT4.out)
        go_wp2_with fail
        refine C.out.mono ?_; rintro e w5 ⟨rfl, m5, rfl⟩
        have HT5 := Lib.hid (HT4.out.drewN m5)
        have HB5 := Lib.hid (bdrewN HB4.out m5)
        clear C HT4 HB4
        generalize w4.drewN m5 = w5 at HT5 HB5 ⊢
        go_wp2_with fail
        go_ret
        exact ⟨by first | rfl | simp, HB5.out⟩

theorem reads : Try.f4.params.toList.all (fun t => Try.prog.readableRec t && decide (t < Try.prog.types.size)) = true := by kernel_rfl

theorem contract (H : Type) (enc : TypeId × Value → H) (W : World) (base : Nat) (args : Array Value) (ds gs : List (DataW H)) (before : List MemPlace)
    (hval : ∀ (j : Nat) t v, Try.f4.params[j]? = some t → args[j]? = some v → Value.okWide Try.prog W .any base t v)
    (hW : DataW.Whole enc Try.prog Try.f4.params.toList Rows.renoLostSpec.vars false W args.toList ds gs before) :
    Calls Try.prog 4 args W fun e W' => ∃ v, e = .returned v ∧ Rows.renoLostSpec.post enc Try.prog Try.f4 false true false false W args v W' := by
  have hW' := hW
  obtain ⟨p, q, hA0, hV, rfl, hfz, hnd⟩ := hW
  have hA : DataW.TrodAll enc Try.prog W 0 (fun _ => true) true Try.f4.params.toList args.toList ds p := hA0
  have hlt := hA.lt
  rw [Try.params4] at hA hval
  obtain ⟨v0, vs0, d0, ds0, p0, q0, hargs, rfl, rfl, h0, r0⟩ := trodAll_cons hA
  obtain ⟨v1, vs1, d1, ds1, p1, q1, hvs1, rfl, rfl, h1, r1⟩ := trodAll_cons r0
  obtain ⟨v2, vs2, d2, ds2, p2, q2, hvs2, rfl, rfl, h2, r2⟩ := trodAll_cons r1
  obtain ⟨hvsn, rfl, rfl⟩ := trodAll_nil r2
  simp only [hvsn, hvs2, hvs1] at hargs
  obtain rfl : args = #[v0, v1, v2] := by cases args; simp_all
  obtain ⟨rfl, rfl⟩ := trodVars_none hV
  clear hA0
  obtain ⟨a0, rfl, rfl, rfl, w0⟩ := open_int Try.underlying3 (hval 0 3 v0 rfl rfl) h0
  have b0 := bounds_int w0
  obtain ⟨a1, rfl, rfl, rfl⟩ := open_bool Try.underlying4 (hval 1 4 v1 rfl rfl) h1
  obtain ⟨a2, rfl, rfl, rfl, w2⟩ := open_int Try.underlying3 (hval 2 3 v2 rfl rfl) h2
  have b2 := bounds_int w2
  exact law_post 4 laid reads rfl Try.underlying4 rfl hW' ⟨rfl, rfl, rfl⟩ (by
    cases a1
    · exact core_false a0 a2 W b0 b2
    · exact core_true a0 a2 W b0 b2)

set_option maxRecDepth 100000 in
theorem lifted (os : Os) (started : os.Started) (H : Type) (enc : TypeId × Value → H) :
    ReturnsInHanded {} Try.checked os 4 .any (Rows.renoLostSpec.pre6 enc Try.prog Try.f4 Rows.renoLostRow.domain false) (Rows.renoLostSpec.post enc Try.prog Try.f4 false true false false) := by
  refine returnsInHanded_of_change (C := Try.checked) own started (by kernel_rfl) Try.func4
    (ChangeSpec.witness6 (enc := enc) (C := Try.checked) false ⟨#[], #[.int .i64 0, .bool false, .int .i64 0], []⟩ 8 (by kernel_rfl) (by kernel_rfl) (by kernel_rfl) (by kernel_rfl)) ?_
  intro W base args ds gs before hval hW _ _
  exact contract H enc W base args ds gs before hval hW

theorem proved : Rows.RenoLostSaid :=
  OpenClaim.holds_of_wide 4 Try.f4 rfl rfl rfl rfl rfl rfl rfl ⟨rfl, rfl, rfl, rfl, rfl⟩ rfl rfl rfl rfl rfl (by kernel_rfl) Try.func4 (by kernel_rfl)
    (of_decide_eq_true (by kernel_rfl)) (by unfold Func.isWrapper; first | (rw [if_pos (by decide +kernel)]; kernel_rfl) | (rw [if_neg (by decide +kernel)]; exact ⟨rfl, rfl⟩))
    (fun os started H enc _ => lifted os started H enc)
end Go.Proofs.Ytbemlbjnjpjlhaa.RenoLostL
