/- The functions of package ones return what the document specifies: the law returns true for every input. No condition. -/
import Derived.Test.YtcdpkdhapdajgaaDoorOnesMath1
import Derived.Test.YtcdpkdhapdajgaaDoorAs
import Derived.Test.YtcdpkdhapdajgaaDoorCards
import Derived.Test.YtcdpkdhapdajgaaDoorTie
import Derived.Deep.DeepHandedRow
import Derived.Lib.LaidTab
import Derived.LaidHandle
import Derived.SevenTiedAt
namespace Go.Proofs.YtcdpkdhapdajgaaDoor.onesSaysP
open Go.ChangeShapes Go.WideShapes Go.ChangeAt Go.RowKit
open Go.Proofs.YtcdpkdhapdajgaaDoor.Kit Go.Proofs.YtcdpkdhapdajgaaDoor.Ones Go.Proofs.YtcdpkdhapdajgaaDoor.OnesMath Go.Proofs.YtcdpkdhapdajgaaDoor.As
set_option linter.unusedVariables false

theorem in_yes (n a b : Int) (w : World) (h : a ≤ n ∧ n ≤ b) : Calls Tryd.prog 9 #[.int .i64 n, .int .i64 a, .int .i64 b] w fun e w' => e = .returned (.bool true) ∧ w = w' := by
  obtain ⟨h1, h2⟩ := h
  have t1 : decide (a ≤ n) = true := decide_eq_true h1
  have t2 : decide (n ≤ b) = true := decide_eq_true h2
  go_enter Tryd.func9, Tryd.ntmps9
  go_wp2
  go_ret
  exact ⟨rfl, rfl⟩
theorem in_no (n a b : Int) (w : World) (h : ¬ (a ≤ n ∧ n ≤ b)) : Calls Tryd.prog 9 #[.int .i64 n, .int .i64 a, .int .i64 b] w fun e w' => e = .returned (.bool false) ∧ w = w' := by
  by_cases h1 : a ≤ n
  · have h2 : ¬ n ≤ b := fun h2 => h ⟨h1, h2⟩
    clear h
    have t1 : decide (a ≤ n) = true := decide_eq_true h1
    have t2 : decide (n ≤ b) = false := decide_eq_false h2
    go_enter Tryd.func9, Tryd.ntmps9
    go_wp2
    go_ret
    exact ⟨rfl, rfl⟩
  · clear h
    have t1 : decide (a ≤ n) = false := decide_eq_false h1
    go_enter Tryd.func9, Tryd.ntmps9
    go_wp2
    go_ret
    exact ⟨rfl, rfl⟩
theorem rin_yes (n a b : Int) (w : World) (h : a ≤ n ∧ n ≤ b) : Calls Tryd.prog 19 #[.int .i64 n, .int .i64 a, .int .i64 b] w fun e w' => e = .returned (.bool true) ∧ w = w' := by
  obtain ⟨h1, h2⟩ := h
  have t1 : decide (a ≤ n) = true := decide_eq_true h1
  have t2 : decide (n ≤ b) = true := decide_eq_true h2
  go_enter Tryd.func19, Tryd.ntmps19
  go_wp2
  go_ret
  exact ⟨rfl, rfl⟩
theorem rin_no (n a b : Int) (w : World) (h : ¬ (a ≤ n ∧ n ≤ b)) : Calls Tryd.prog 19 #[.int .i64 n, .int .i64 a, .int .i64 b] w fun e w' => e = .returned (.bool false) ∧ w = w' := by
  by_cases h1 : a ≤ n
  · have h2 : ¬ n ≤ b := fun h2 => h ⟨h1, h2⟩
    clear h
    have t1 : decide (a ≤ n) = true := decide_eq_true h1
    have t2 : decide (n ≤ b) = false := decide_eq_false h2
    go_enter Tryd.func19, Tryd.ntmps19
    go_wp2
    go_ret
    exact ⟨rfl, rfl⟩
  · clear h
    have t1 : decide (a ≤ n) = false := decide_eq_false h1
    go_enter Tryd.func19, Tryd.ntmps19
    go_wp2
    go_ret
    exact ⟨rfl, rfl⟩

theorem all_any (p : Option Addr) (cap : Nat) (l : List Int) (m : Int) (w : World) (h : Ints w p cap l) :
    Calls Tryd.prog 12 #[.slice p l.length cap, .int .i64 0, .int .i64 m] w fun e w' => e = .returned (.bool (wthn l m)) ∧ w = w' := by
  have hlen := h.len_le
  go_enter Tryd.func12, Tryd.ntmps12
  go_wp2
  go_loop [7] (fun i => ∃ k : Nat, k ≤ l.length ∧ i = .int .i64 k ∧ Hid (∀ j : Nat, j < k → 0 ≤ l[j]?.getD 0 ∧ l[j]?.getD 0 ≤ m)) (fun i => l.length - (intOf i).toNat)
  case atStart => exact ⟨0, Nat.zero_le _, rfl, fun j hj => absurd hj (Nat.not_lt_zero _)⟩
  case round =>
    obtain ⟨k, hk, rfl, H⟩ := hrel
    by_cases hlt : k < l.length
    · obtain ⟨b, off, rfl, _, hc⟩ := h.2.2.2 (by omega)
      have hck := hc k hlt
      clear hc h
      obtain ⟨x, hx⟩ : ∃ x, l[k]?.getD 0 = x := ⟨_, rfl⟩
      rw [hx] at hck
      have Hx := Lib.hid hx
      clear hx
      by_cases h1 : 0 ≤ x ∧ x ≤ m
      · go_wp2_with (go_at_call 19; refine (rin_yes x 0 m _ h1).mono ?_; rintro e w' ⟨rfl, rfl⟩)
        go_round
        case rel => exact ⟨k + 1, by omega, by go_num, fun j hj => by
          by_cases e : j = k
          · rw [e, Hx.out]; omega
          · exact H.out j (by omega)⟩
        case measure => simp [intOf]; omega
      · go_wp2_with (go_at_call 19; refine (rin_no x 0 m _ h1).mono ?_; rintro e w' ⟨rfl, rfl⟩)
        go_ret
        exact ⟨ret_bool (wthn_false hlt (by rw [Hx.out]; omega)), rfl⟩
    · obtain rfl : k = l.length := by omega
      go_wp2
      go_ret
      exact ⟨ret_bool (wthn_true H.out), rfl⟩

theorem bytes_any (p : Option Addr) (cap : Nat) (l : List Int) (w : World) (h : Ints w p cap l) :
    Calls Tryd.prog 4 #[.slice p l.length cap, .int .i64 600] w fun e w' => e = .returned (.int .i64 (bad l)) ∧ w = w' := by
  have hlen := h.len_le
  by_cases h1 : 600 < l.length
  · have e : bad l = 4 := by simp [bad, h1]
    rw [e]
    clear e
    go_enter Tryd.func4, Tryd.ntmps4
    go_wp2
    go_ret
    exact ⟨rfl, rfl⟩
  · have h2 : l.length ≤ 600 := by omega
    have C := all_any p cap l 255 w h
    have e : bad l = if wthn l 255 then 0 else 1 := by simp [bad, h1]
    rw [e]
    clear e h1
    cases hy : wthn l 255 with
    | true =>
      rw [hy] at C
      have C' := Lib.hid C
      clear C hy
      go_enter Tryd.func4, Tryd.ntmps4
      go_wp2_with (go_at_call 12; refine C'.out.mono ?_; rintro e w' ⟨rfl, rfl⟩)
      go_ret
      exact ⟨rfl, rfl⟩
    | false =>
      rw [hy] at C
      have C' := Lib.hid C
      clear C hy
      go_enter Tryd.func4, Tryd.ntmps4
      go_wp2_with (go_at_call 12; refine C'.out.mono ?_; rintro e w' ⟨rfl, rfl⟩)
      go_ret
      exact ⟨rfl, rfl⟩

theorem round_any (n : Int) (w : World) (h0 : 0 ≤ n) (h1 : n ≤ 1000000000) :
    Calls Tryd.prog 10 #[.int .i64 n] w fun e w' => e = .returned (.int .i64 (rnd n)) ∧ w = w' := by
  by_cases hz : n = 0
  · subst hz
    go_enter Tryd.func10, Tryd.ntmps10
    go_wp2
    go_ret
    exact ⟨rfl, rfl⟩
  · have e : rnd n = (n - 1) % 65535 + 1 := by simp [rnd, hz]
    rw [e]
    have t : (n == 0) = false := by rw [beq_eq_false_iff_ne]; exact hz
    have hp : 1 ≤ n := by omega
    clear e hz
    go_enter Tryd.func10, Tryd.ntmps10
    go_wp2
    go_ret
    exact ⟨rfl, rfl⟩

theorem wsb_le : ∀ (b : Bool) (l : List Int), (∀ x ∈ l, 0 ≤ x ∧ x ≤ 255) → wsb b l ≤ 65280 * l.length
  | b, [], _ => by cases b <;> exact Int.le_refl _
  | true, a :: r, h => by have h1 := h a (by simp); have h2 := wsb_le false r (fun x hx => h x (by simp [hx])); simp only [wsb, List.length_cons]; omega
  | false, a :: r, h => by have h1 := h a (by simp); have h2 := wsb_le true r (fun x hx => h x (by simp [hx])); simp only [wsb, List.length_cons]; omega
theorem wsb_snoc (l : List Int) (x : Int) : wsb true (l ++ [x]) = wsb true l + x * (if l.length % 2 = 0 then 256 else 1) := by
  rw [wsb_append]
  by_cases h : l.length % 2 = 0
  · rw [if_pos h, if_pos h]; simp [wsb]
  · rw [if_neg h, if_neg h]; simp [wsb]

set_option maxHeartbeats 400000 in
theorem total_ref (p : Option Addr) (cap : Nat) (l : List Int) (w : World) (h : Ints w p cap l) (hn : l.length ≤ 600) (hby : wthn l 255 = true) :
    Calls Tryd.prog 5 #[.slice p l.length cap] w fun e w' => e = .returned (.int .i64 (onesum l)) ∧ w = w' := by
  rw [onesum_rnd hby]
  have hb := bytes_of hby
  clear hby
  go_enter Tryd.func5, Tryd.ntmps5
  go_wp2
  go_loop [3, 4] (fun s i => ∃ k : Nat, k ≤ l.length ∧ i = .int .i64 k ∧ s = .int .i64 (wsb true (l.take k))) (fun _ i => l.length - (intOf i).toNat)
  case atStart => exact ⟨0, Nat.zero_le _, rfl, rfl⟩
  case round =>
    obtain ⟨k, hk, rfl, rfl⟩ := hrel
    by_cases hlt : k < l.length
    · obtain ⟨b, off, rfl, _, hc⟩ := h.2.2.2 (by omega)
      have hck := hc k hlt
      have hm : ∀ x ∈ l.take k, 0 ≤ x ∧ x ≤ 255 := fun x hm => hb x (List.mem_of_mem_take hm)
      have hr1 := wsb_range true _ hm
      have hr2 := wsb_le true _ hm
      have hxk := hb _ (List.getElem_mem hlt)
      have hlen : (l.take k).length = k := by rw [List.length_take]; omega
      have E := Lib.hid (show wsb true (l.take (k + 1)) = wsb true (l.take k) + l[k] * (if k % 2 = 0 then 256 else 1) by rw [List.take_succ_eq_append_getElem hlt, wsb_snoc, hlen])
      rw [hlen] at hr2
      rw [List.getElem?_eq_getElem hlt, Option.getD_some] at hck
      generalize wsb true (l.take k) = s at hr1 hr2 E
      generalize l[k] = x at hck hxk E
      have hr3 : s ≤ 39168000 := by omega
      clear hc h hb hr2 hm hlen
      by_cases ho : k % 2 = 0
      · have t1 : ((k : Int) % 2 == 0) = true := by rw [beq_iff_eq]; omega
        rw [if_pos ho] at E
        clear ho
        go_wp2
        go_round
        case rel => exact ⟨k + 1, by omega, by go_num, by rw [E.out]; go_num⟩
        case measure => simp [intOf]; omega
      · have t1 : ((k : Int) % 2 == 0) = false := by rw [beq_eq_false_iff_ne]; omega
        rw [if_neg ho, Int.mul_one] at E
        clear ho
        go_wp2
        go_round
        case rel => exact ⟨k + 1, by omega, by go_num, by rw [E.out]⟩
        case measure => simp [intOf]; omega
    · obtain rfl : k = l.length := by omega
      have hr1 := wsb_range true _ hb
      have hr2 := wsb_le true _ hb
      go_wp2_with (go_at_call 10; refine (round_any _ _ hr1 (by omega)).mono ?_; rintro e w' ⟨rfl, rfl⟩)
      go_ret
      exact ⟨rfl, rfl⟩

theorem mend_ref {a b c : Int} (ha : 0 ≤ a ∧ a ≤ 65535) (hb : 0 ≤ b ∧ b ≤ 65535) (hc : 0 ≤ c ∧ c ≤ 65535) : sum1 [65535 - a, 65535 - b, c] = rnd (rnd (131070 - a - b) + c) := by
  rw [sum1_rnd (by intro v hv; simp at hv; omega)]
  have e : lsum [65535 - a, 65535 - b, c] = 131070 - a - b + c := by simp [lsum]; omega
  rw [e]
  have h : 0 ≤ 131070 - a - b := by omega
  generalize 131070 - a - b = t at h
  rw [← add1_rnd h hc]
  have hr := rnd_range h
  unfold add1
  generalize rnd t = r at hr
  unfold rnd
  split <;> split <;> omega

set_option maxHeartbeats 4000000 in
theorem law_bad (p : Option Addr) (cap : Nat) (l : List Int) (a b c : Int) (w : World) (h : Ints w p cap l) (hg : Handle w) (wa : (Lit.int .i64 a).wf = true) (wb : (Lit.int .i64 b).wf = true) (wc : (Lit.int .i64 c).wf = true) (hbad : bad l ≠ 0) : Calls Tryd.prog 3 #[.slice p l.length cap, .int .i64 a, .int .i64 b, .int .i64 c] w fun e w' => e = .returned (.bool true) ∧ Below w.heap.size w w' := by
  have BY := Lib.hid (fun W (hh : Ints W p cap l) => bytes_any p cap l W hh)
  have SB := Lib.hid (fun W (hh : Ints W p cap l) => sum_bad p cap l W hh hbad)
  have GB := Lib.hid (fun W (hh : Ints W p cap l) => good_bad p cap l W hh hbad)
  have ba := bounds_int wa
  have bb := bounds_int wb
  have bc := bounds_int wc
  have hlen := h.len_le
  generalize bad l = k at BY SB GB hbad
  have t1 : (k == 0) = false := by rw [beq_eq_false_iff_ne]; exact hbad
  have t2 : (k == k) = true := beq_self_eq_true k
  clear hbad
  skip
  by_cases c1 : 0 ≤ a ∧ a ≤ 65535
  · by_cases c2 : 0 ≤ b ∧ b ≤ 65535
    · by_cases c3 : 0 ≤ c ∧ c ≤ 65535
      · skip
        have MO := Lib.hid (fun W => mend_ok a b c W c1 c2 c3)
        rw [mend_ref c1 c2 c3] at MO
        have hr1 := rnd_range (show 0 ≤ 131070 - a - b by omega)
        have e9 : (65535 - a + 65535 - b : Int) = 131070 - a - b := by omega
        obtain ⟨s, hs⟩ : ∃ s, rnd (131070 - a - b) = s := ⟨_, rfl⟩
        rw [hs] at MO hr1
        have RA := Lib.hid (fun W => round_any (65535 - a + 65535 - b) W (by omega) (by omega))
        rw [show rnd (65535 - a + 65535 - b) = s by rw [e9]; exact hs] at RA
        have RR := Lib.hid (fun W => round_any (s + c) W (by omega) (by omega))
        have hr2 := rnd_range (show 0 ≤ s + c by omega)
        generalize rnd (s + c) = r at MO RR hr2
        have t9 : ((65535 - r) == (65535 - r)) = true := beq_self_eq_true _
        clear hs e9
        go_enter Tryd.func3, Tryd.ntmps3
        go_wp2_with fail
        refine (BY.out _ h).mono ?_; rintro e w1 ⟨rfl, rfl⟩
        go_wp2_with fail
        refine (SB.out _ h).mono ?_; rintro e w2 ⟨rfl, rfl⟩
        go_wp2_with fail
        refine (error_hit k k _ hg).mono ?_; rintro e w3 ⟨rfl, hb3⟩
        go_wp2_with fail
        refine (GB.out _ (h.below hb3)).mono ?_; rintro e w4 ⟨rfl, rfl⟩
        go_wp2_with fail
        refine (error_hit k k _ (hg.below hb3)).mono ?_; rintro e w5 ⟨rfl, hb5⟩
        go_wp2_with fail
        have hB := bcall hb3 hb5
        refine (in_yes _ 0 _ _ c1).mono ?_; rintro e w6 ⟨rfl, rfl⟩
        go_wp2_with fail
        refine (in_yes _ 0 _ _ c2).mono ?_; rintro e w6 ⟨rfl, rfl⟩
        go_wp2_with fail
        refine (in_yes _ 0 _ _ c3).mono ?_; rintro e w6 ⟨rfl, rfl⟩
        go_wp2_with fail
        refine (RA.out _).mono ?_; rintro e w6 ⟨rfl, rfl⟩
        go_wp2_with fail
        refine (RR.out _).mono ?_; rintro e w6 ⟨rfl, rfl⟩
        go_wp2_with fail
        refine (MO.out _).mono ?_; rintro e w6 ⟨rfl, hb6⟩
        go_wp2_with fail
        refine (error_nil 0 _).mono ?_; rintro e w7 ⟨rfl, rfl⟩
        go_wp2_with fail
        go_ret
        exact ⟨rfl, bcall hB hb6⟩
      · skip
        have MB := Lib.hid (fun W => mend_bad a b c W wa wb wc (by omega))
        go_enter Tryd.func3, Tryd.ntmps3
        go_wp2_with fail
        refine (BY.out _ h).mono ?_; rintro e w1 ⟨rfl, rfl⟩
        go_wp2_with fail
        refine (SB.out _ h).mono ?_; rintro e w2 ⟨rfl, rfl⟩
        go_wp2_with fail
        refine (error_hit k k _ hg).mono ?_; rintro e w3 ⟨rfl, hb3⟩
        go_wp2_with fail
        refine (GB.out _ (h.below hb3)).mono ?_; rintro e w4 ⟨rfl, rfl⟩
        go_wp2_with fail
        refine (error_hit k k _ (hg.below hb3)).mono ?_; rintro e w5 ⟨rfl, hb5⟩
        go_wp2_with fail
        have hB := bcall hb3 hb5
        refine (in_yes _ 0 _ _ c1).mono ?_; rintro e w6 ⟨rfl, rfl⟩
        go_wp2_with fail
        refine (in_yes _ 0 _ _ c2).mono ?_; rintro e w6 ⟨rfl, rfl⟩
        go_wp2_with fail
        refine (in_no _ 0 _ _ c3).mono ?_; rintro e w6 ⟨rfl, rfl⟩
        go_wp2_with fail
        refine (MB.out _).mono ?_; rintro e w6 ⟨rfl, hb6⟩
        have hB6 := bcall hB hb6
        go_wp2_with fail
        refine (error_hit 1 1 _ (hg.below hB6)).mono ?_; rintro e w7 ⟨rfl, hb7⟩
        go_wp2_with fail
        go_ret
        exact ⟨rfl, bcall hB6 hb7⟩
    · skip
      have MB := Lib.hid (fun W => mend_bad a b c W wa wb wc (by omega))
      go_enter Tryd.func3, Tryd.ntmps3
      go_wp2_with fail
      refine (BY.out _ h).mono ?_; rintro e w1 ⟨rfl, rfl⟩
      go_wp2_with fail
      refine (SB.out _ h).mono ?_; rintro e w2 ⟨rfl, rfl⟩
      go_wp2_with fail
      refine (error_hit k k _ hg).mono ?_; rintro e w3 ⟨rfl, hb3⟩
      go_wp2_with fail
      refine (GB.out _ (h.below hb3)).mono ?_; rintro e w4 ⟨rfl, rfl⟩
      go_wp2_with fail
      refine (error_hit k k _ (hg.below hb3)).mono ?_; rintro e w5 ⟨rfl, hb5⟩
      go_wp2_with fail
      have hB := bcall hb3 hb5
      refine (in_yes _ 0 _ _ c1).mono ?_; rintro e w6 ⟨rfl, rfl⟩
      go_wp2_with fail
      refine (in_no _ 0 _ _ c2).mono ?_; rintro e w6 ⟨rfl, rfl⟩
      go_wp2_with fail
      refine (MB.out _).mono ?_; rintro e w6 ⟨rfl, hb6⟩
      have hB6 := bcall hB hb6
      go_wp2_with fail
      refine (error_hit 1 1 _ (hg.below hB6)).mono ?_; rintro e w7 ⟨rfl, hb7⟩
      go_wp2_with fail
      go_ret
      exact ⟨rfl, bcall hB6 hb7⟩
  · skip
    have MB := Lib.hid (fun W => mend_bad a b c W wa wb wc (by omega))
    go_enter Tryd.func3, Tryd.ntmps3
    go_wp2_with fail
    refine (BY.out _ h).mono ?_; rintro e w1 ⟨rfl, rfl⟩
    go_wp2_with fail
    refine (SB.out _ h).mono ?_; rintro e w2 ⟨rfl, rfl⟩
    go_wp2_with fail
    refine (error_hit k k _ hg).mono ?_; rintro e w3 ⟨rfl, hb3⟩
    go_wp2_with fail
    refine (GB.out _ (h.below hb3)).mono ?_; rintro e w4 ⟨rfl, rfl⟩
    go_wp2_with fail
    refine (error_hit k k _ (hg.below hb3)).mono ?_; rintro e w5 ⟨rfl, hb5⟩
    go_wp2_with fail
    have hB := bcall hb3 hb5
    refine (in_no _ 0 _ _ c1).mono ?_; rintro e w6 ⟨rfl, rfl⟩
    go_wp2_with fail
    refine (MB.out _).mono ?_; rintro e w6 ⟨rfl, hb6⟩
    have hB6 := bcall hB hb6
    go_wp2_with fail
    refine (error_hit 1 1 _ (hg.below hB6)).mono ?_; rintro e w7 ⟨rfl, hb7⟩
    go_wp2_with fail
    go_ret
    exact ⟨rfl, bcall hB6 hb7⟩

set_option maxHeartbeats 4000000 in
theorem law_good (p : Option Addr) (cap : Nat) (l : List Int) (a b c : Int) (w : World) (h : Ints w p cap l) (hg : Handle w) (wa : (Lit.int .i64 a).wf = true) (wb : (Lit.int .i64 b).wf = true) (wc : (Lit.int .i64 c).wf = true) (hn : l.length ≤ 600) (hby : wthn l 255 = true) : Calls Tryd.prog 3 #[.slice p l.length cap, .int .i64 a, .int .i64 b, .int .i64 c] w fun e w' => e = .returned (.bool true) ∧ Below w.heap.size w w' := by
  have e0 : bad l = 0 := by simp [bad, hby]; omega
  have BY := Lib.hid (fun W (hh : Ints W p cap l) => bytes_any p cap l W hh)
  rw [e0] at BY
  have SO := Lib.hid (fun W (hh : Ints W p cap l) => sum_ok p cap l W hh hn hby)
  have GO := Lib.hid (fun W (hh : Ints W p cap l) => good_ok p cap l W hh hn hby)
  have TR := Lib.hid (fun W (hh : Ints W p cap l) => total_ref p cap l W hh hn hby)
  have hr := onesum_range hby
  have ba := bounds_int wa
  have bb := bounds_int wb
  have bc := bounds_int wc
  clear e0 hby
  generalize onesum l = t at SO GO TR hr
  have t2 : ((65535 - t) == (65535 - t)) = true := beq_self_eq_true _
  by_cases ht : t = 65535
  · subst ht
    clear t2
    by_cases c1 : 0 ≤ a ∧ a ≤ 65535
    · by_cases c2 : 0 ≤ b ∧ b ≤ 65535
      · by_cases c3 : 0 ≤ c ∧ c ≤ 65535
        · skip
          have MO := Lib.hid (fun W => mend_ok a b c W c1 c2 c3)
          rw [mend_ref c1 c2 c3] at MO
          have hr1 := rnd_range (show 0 ≤ 131070 - a - b by omega)
          have e9 : (65535 - a + 65535 - b : Int) = 131070 - a - b := by omega
          obtain ⟨s, hs⟩ : ∃ s, rnd (131070 - a - b) = s := ⟨_, rfl⟩
          rw [hs] at MO hr1
          have RA := Lib.hid (fun W => round_any (65535 - a + 65535 - b) W (by omega) (by omega))
          rw [show rnd (65535 - a + 65535 - b) = s by rw [e9]; exact hs] at RA
          have RR := Lib.hid (fun W => round_any (s + c) W (by omega) (by omega))
          have hr2 := rnd_range (show 0 ≤ s + c by omega)
          generalize rnd (s + c) = r at MO RR hr2
          have t9 : ((65535 - r) == (65535 - r)) = true := beq_self_eq_true _
          clear hs e9
          go_enter Tryd.func3, Tryd.ntmps3
          go_wp2_with fail
          refine (BY.out _ h).mono ?_; rintro e w1 ⟨rfl, rfl⟩
          go_wp2_with fail
          refine (TR.out _ h).mono ?_; rintro e w2 ⟨rfl, rfl⟩
          go_wp2_with fail
          refine (SO.out _ h).mono ?_; rintro e w2 ⟨rfl, hb2⟩
          go_wp2_with fail
          refine (error_nil 0 _).mono ?_; rintro e w3 ⟨rfl, rfl⟩
          go_wp2_with fail
          refine (GO.out _ (h.below hb2)).mono ?_; rintro e w4 ⟨rfl, hb4⟩
          go_wp2_with fail
          refine (error_nil 0 _).mono ?_; rintro e w5 ⟨rfl, rfl⟩
          go_wp2_with fail
          have hB := bcall hb2 hb4
          refine (in_yes _ 0 _ _ c1).mono ?_; rintro e w6 ⟨rfl, rfl⟩
          go_wp2_with fail
          refine (in_yes _ 0 _ _ c2).mono ?_; rintro e w6 ⟨rfl, rfl⟩
          go_wp2_with fail
          refine (in_yes _ 0 _ _ c3).mono ?_; rintro e w6 ⟨rfl, rfl⟩
          go_wp2_with fail
          refine (RA.out _).mono ?_; rintro e w6 ⟨rfl, rfl⟩
          go_wp2_with fail
          refine (RR.out _).mono ?_; rintro e w6 ⟨rfl, rfl⟩
          go_wp2_with fail
          refine (MO.out _).mono ?_; rintro e w6 ⟨rfl, hb6⟩
          go_wp2_with fail
          refine (error_nil 0 _).mono ?_; rintro e w7 ⟨rfl, rfl⟩
          go_wp2_with fail
          go_ret
          exact ⟨rfl, bcall hB hb6⟩
        · skip
          have MB := Lib.hid (fun W => mend_bad a b c W wa wb wc (by omega))
          go_enter Tryd.func3, Tryd.ntmps3
          go_wp2_with fail
          refine (BY.out _ h).mono ?_; rintro e w1 ⟨rfl, rfl⟩
          go_wp2_with fail
          refine (TR.out _ h).mono ?_; rintro e w2 ⟨rfl, rfl⟩
          go_wp2_with fail
          refine (SO.out _ h).mono ?_; rintro e w2 ⟨rfl, hb2⟩
          go_wp2_with fail
          refine (error_nil 0 _).mono ?_; rintro e w3 ⟨rfl, rfl⟩
          go_wp2_with fail
          refine (GO.out _ (h.below hb2)).mono ?_; rintro e w4 ⟨rfl, hb4⟩
          go_wp2_with fail
          refine (error_nil 0 _).mono ?_; rintro e w5 ⟨rfl, rfl⟩
          go_wp2_with fail
          have hB := bcall hb2 hb4
          refine (in_yes _ 0 _ _ c1).mono ?_; rintro e w6 ⟨rfl, rfl⟩
          go_wp2_with fail
          refine (in_yes _ 0 _ _ c2).mono ?_; rintro e w6 ⟨rfl, rfl⟩
          go_wp2_with fail
          refine (in_no _ 0 _ _ c3).mono ?_; rintro e w6 ⟨rfl, rfl⟩
          go_wp2_with fail
          refine (MB.out _).mono ?_; rintro e w6 ⟨rfl, hb6⟩
          have hB6 := bcall hB hb6
          go_wp2_with fail
          refine (error_hit 1 1 _ (hg.below hB6)).mono ?_; rintro e w7 ⟨rfl, hb7⟩
          go_wp2_with fail
          go_ret
          exact ⟨rfl, bcall hB6 hb7⟩
      · skip
        have MB := Lib.hid (fun W => mend_bad a b c W wa wb wc (by omega))
        go_enter Tryd.func3, Tryd.ntmps3
        go_wp2_with fail
        refine (BY.out _ h).mono ?_; rintro e w1 ⟨rfl, rfl⟩
        go_wp2_with fail
        refine (TR.out _ h).mono ?_; rintro e w2 ⟨rfl, rfl⟩
        go_wp2_with fail
        refine (SO.out _ h).mono ?_; rintro e w2 ⟨rfl, hb2⟩
        go_wp2_with fail
        refine (error_nil 0 _).mono ?_; rintro e w3 ⟨rfl, rfl⟩
        go_wp2_with fail
        refine (GO.out _ (h.below hb2)).mono ?_; rintro e w4 ⟨rfl, hb4⟩
        go_wp2_with fail
        refine (error_nil 0 _).mono ?_; rintro e w5 ⟨rfl, rfl⟩
        go_wp2_with fail
        have hB := bcall hb2 hb4
        refine (in_yes _ 0 _ _ c1).mono ?_; rintro e w6 ⟨rfl, rfl⟩
        go_wp2_with fail
        refine (in_no _ 0 _ _ c2).mono ?_; rintro e w6 ⟨rfl, rfl⟩
        go_wp2_with fail
        refine (MB.out _).mono ?_; rintro e w6 ⟨rfl, hb6⟩
        have hB6 := bcall hB hb6
        go_wp2_with fail
        refine (error_hit 1 1 _ (hg.below hB6)).mono ?_; rintro e w7 ⟨rfl, hb7⟩
        go_wp2_with fail
        go_ret
        exact ⟨rfl, bcall hB6 hb7⟩
    · skip
      have MB := Lib.hid (fun W => mend_bad a b c W wa wb wc (by omega))
      go_enter Tryd.func3, Tryd.ntmps3
      go_wp2_with fail
      refine (BY.out _ h).mono ?_; rintro e w1 ⟨rfl, rfl⟩
      go_wp2_with fail
      refine (TR.out _ h).mono ?_; rintro e w2 ⟨rfl, rfl⟩
      go_wp2_with fail
      refine (SO.out _ h).mono ?_; rintro e w2 ⟨rfl, hb2⟩
      go_wp2_with fail
      refine (error_nil 0 _).mono ?_; rintro e w3 ⟨rfl, rfl⟩
      go_wp2_with fail
      refine (GO.out _ (h.below hb2)).mono ?_; rintro e w4 ⟨rfl, hb4⟩
      go_wp2_with fail
      refine (error_nil 0 _).mono ?_; rintro e w5 ⟨rfl, rfl⟩
      go_wp2_with fail
      have hB := bcall hb2 hb4
      refine (in_no _ 0 _ _ c1).mono ?_; rintro e w6 ⟨rfl, rfl⟩
      go_wp2_with fail
      refine (MB.out _).mono ?_; rintro e w6 ⟨rfl, hb6⟩
      have hB6 := bcall hB hb6
      go_wp2_with fail
      refine (error_hit 1 1 _ (hg.below hB6)).mono ?_; rintro e w7 ⟨rfl, hb7⟩
      go_wp2_with fail
      go_ret
      exact ⟨rfl, bcall hB6 hb7⟩
  · have t3 : (t == 65535) = false := by rw [beq_eq_false_iff_ne]; exact ht
    rw [t3] at GO
    clear ht
    by_cases c1 : 0 ≤ a ∧ a ≤ 65535
    · by_cases c2 : 0 ≤ b ∧ b ≤ 65535
      · by_cases c3 : 0 ≤ c ∧ c ≤ 65535
        · skip
          have MO := Lib.hid (fun W => mend_ok a b c W c1 c2 c3)
          rw [mend_ref c1 c2 c3] at MO
          have hr1 := rnd_range (show 0 ≤ 131070 - a - b by omega)
          have e9 : (65535 - a + 65535 - b : Int) = 131070 - a - b := by omega
          obtain ⟨s, hs⟩ : ∃ s, rnd (131070 - a - b) = s := ⟨_, rfl⟩
          rw [hs] at MO hr1
          have RA := Lib.hid (fun W => round_any (65535 - a + 65535 - b) W (by omega) (by omega))
          rw [show rnd (65535 - a + 65535 - b) = s by rw [e9]; exact hs] at RA
          have RR := Lib.hid (fun W => round_any (s + c) W (by omega) (by omega))
          have hr2 := rnd_range (show 0 ≤ s + c by omega)
          generalize rnd (s + c) = r at MO RR hr2
          have t9 : ((65535 - r) == (65535 - r)) = true := beq_self_eq_true _
          clear hs e9
          go_enter Tryd.func3, Tryd.ntmps3
          go_wp2_with fail
          refine (BY.out _ h).mono ?_; rintro e w1 ⟨rfl, rfl⟩
          go_wp2_with fail
          refine (TR.out _ h).mono ?_; rintro e w2 ⟨rfl, rfl⟩
          go_wp2_with fail
          refine (SO.out _ h).mono ?_; rintro e w2 ⟨rfl, hb2⟩
          go_wp2_with fail
          refine (error_nil 0 _).mono ?_; rintro e w3 ⟨rfl, rfl⟩
          go_wp2_with fail
          refine (GO.out _ (h.below hb2)).mono ?_; rintro e w4 ⟨rfl, hb4⟩
          go_wp2_with fail
          refine (error_nil 0 _).mono ?_; rintro e w5 ⟨rfl, rfl⟩
          go_wp2_with fail
          have hB := bcall hb2 hb4
          refine (in_yes _ 0 _ _ c1).mono ?_; rintro e w6 ⟨rfl, rfl⟩
          go_wp2_with fail
          refine (in_yes _ 0 _ _ c2).mono ?_; rintro e w6 ⟨rfl, rfl⟩
          go_wp2_with fail
          refine (in_yes _ 0 _ _ c3).mono ?_; rintro e w6 ⟨rfl, rfl⟩
          go_wp2_with fail
          refine (RA.out _).mono ?_; rintro e w6 ⟨rfl, rfl⟩
          go_wp2_with fail
          refine (RR.out _).mono ?_; rintro e w6 ⟨rfl, rfl⟩
          go_wp2_with fail
          refine (MO.out _).mono ?_; rintro e w6 ⟨rfl, hb6⟩
          go_wp2_with fail
          refine (error_nil 0 _).mono ?_; rintro e w7 ⟨rfl, rfl⟩
          go_wp2_with fail
          go_ret
          exact ⟨rfl, bcall hB hb6⟩
        · skip
          have MB := Lib.hid (fun W => mend_bad a b c W wa wb wc (by omega))
          go_enter Tryd.func3, Tryd.ntmps3
          go_wp2_with fail
          refine (BY.out _ h).mono ?_; rintro e w1 ⟨rfl, rfl⟩
          go_wp2_with fail
          refine (TR.out _ h).mono ?_; rintro e w2 ⟨rfl, rfl⟩
          go_wp2_with fail
          refine (SO.out _ h).mono ?_; rintro e w2 ⟨rfl, hb2⟩
          go_wp2_with fail
          refine (error_nil 0 _).mono ?_; rintro e w3 ⟨rfl, rfl⟩
          go_wp2_with fail
          refine (GO.out _ (h.below hb2)).mono ?_; rintro e w4 ⟨rfl, hb4⟩
          go_wp2_with fail
          refine (error_nil 0 _).mono ?_; rintro e w5 ⟨rfl, rfl⟩
          go_wp2_with fail
          have hB := bcall hb2 hb4
          refine (in_yes _ 0 _ _ c1).mono ?_; rintro e w6 ⟨rfl, rfl⟩
          go_wp2_with fail
          refine (in_yes _ 0 _ _ c2).mono ?_; rintro e w6 ⟨rfl, rfl⟩
          go_wp2_with fail
          refine (in_no _ 0 _ _ c3).mono ?_; rintro e w6 ⟨rfl, rfl⟩
          go_wp2_with fail
          refine (MB.out _).mono ?_; rintro e w6 ⟨rfl, hb6⟩
          have hB6 := bcall hB hb6
          go_wp2_with fail
          refine (error_hit 1 1 _ (hg.below hB6)).mono ?_; rintro e w7 ⟨rfl, hb7⟩
          go_wp2_with fail
          go_ret
          exact ⟨rfl, bcall hB6 hb7⟩
      · skip
        have MB := Lib.hid (fun W => mend_bad a b c W wa wb wc (by omega))
        go_enter Tryd.func3, Tryd.ntmps3
        go_wp2_with fail
        refine (BY.out _ h).mono ?_; rintro e w1 ⟨rfl, rfl⟩
        go_wp2_with fail
        refine (TR.out _ h).mono ?_; rintro e w2 ⟨rfl, rfl⟩
        go_wp2_with fail
        refine (SO.out _ h).mono ?_; rintro e w2 ⟨rfl, hb2⟩
        go_wp2_with fail
        refine (error_nil 0 _).mono ?_; rintro e w3 ⟨rfl, rfl⟩
        go_wp2_with fail
        refine (GO.out _ (h.below hb2)).mono ?_; rintro e w4 ⟨rfl, hb4⟩
        go_wp2_with fail
        refine (error_nil 0 _).mono ?_; rintro e w5 ⟨rfl, rfl⟩
        go_wp2_with fail
        have hB := bcall hb2 hb4
        refine (in_yes _ 0 _ _ c1).mono ?_; rintro e w6 ⟨rfl, rfl⟩
        go_wp2_with fail
        refine (in_no _ 0 _ _ c2).mono ?_; rintro e w6 ⟨rfl, rfl⟩
        go_wp2_with fail
        refine (MB.out _).mono ?_; rintro e w6 ⟨rfl, hb6⟩
        have hB6 := bcall hB hb6
        go_wp2_with fail
        refine (error_hit 1 1 _ (hg.below hB6)).mono ?_; rintro e w7 ⟨rfl, hb7⟩
        go_wp2_with fail
        go_ret
        exact ⟨rfl, bcall hB6 hb7⟩
    · skip
      have MB := Lib.hid (fun W => mend_bad a b c W wa wb wc (by omega))
      go_enter Tryd.func3, Tryd.ntmps3
      go_wp2_with fail
      refine (BY.out _ h).mono ?_; rintro e w1 ⟨rfl, rfl⟩
      go_wp2_with fail
      refine (TR.out _ h).mono ?_; rintro e w2 ⟨rfl, rfl⟩
      go_wp2_with fail
      refine (SO.out _ h).mono ?_; rintro e w2 ⟨rfl, hb2⟩
      go_wp2_with fail
      refine (error_nil 0 _).mono ?_; rintro e w3 ⟨rfl, rfl⟩
      go_wp2_with fail
      refine (GO.out _ (h.below hb2)).mono ?_; rintro e w4 ⟨rfl, hb4⟩
      go_wp2_with fail
      refine (error_nil 0 _).mono ?_; rintro e w5 ⟨rfl, rfl⟩
      go_wp2_with fail
      have hB := bcall hb2 hb4
      refine (in_no _ 0 _ _ c1).mono ?_; rintro e w6 ⟨rfl, rfl⟩
      go_wp2_with fail
      refine (MB.out _).mono ?_; rintro e w6 ⟨rfl, hb6⟩
      have hB6 := bcall hB hb6
      go_wp2_with fail
      refine (error_hit 1 1 _ (hg.below hB6)).mono ?_; rintro e w7 ⟨rfl, hb7⟩
      go_wp2_with fail
      go_ret
      exact ⟨rfl, bcall hB6 hb7⟩

theorem law (p : Option Addr) (cap : Nat) (l : List Int) (a b c : Int) (w : World) (h : Ints w p cap l) (hg : Handle w) (wa : (Lit.int .i64 a).wf = true) (wb : (Lit.int .i64 b).wf = true) (wc : (Lit.int .i64 c).wf = true) : Calls Tryd.prog 3 #[.slice p l.length cap, .int .i64 a, .int .i64 b, .int .i64 c] w fun e w' => e = .returned (.bool true) ∧ Below w.heap.size w w' := by
  by_cases hb : bad l ≠ 0
  · exact law_bad p cap l a b c w h hg wa wb wc hb
  · have h1 : l.length ≤ 600 ∧ wthn l 255 = true := by
      unfold bad at hb
      by_cases h1 : 600 < l.length
      · simp [h1] at hb
      · cases h2 : wthn l 255 with
        | true => exact ⟨by omega, rfl⟩
        | false => simp [h1, h2] at hb
    exact law_good p cap l a b c w h hg wa wb wc h1.1 h1.2

theorem reads : Tryd.f3.params.toList.all (fun t => Tryd.prog.readableRec t && decide (t < Tryd.prog.types.size)) = true := by kernel_rfl
theorem et : Tryd.prog.globalNamed "errors.errorType" = some 0 := by kernel_rfl
theorem rt : (Tryd.prog.cutTypes.find? (·.1 == "internal/reflectlite.rtype")).map (·.2) = some 70 := by kernel_rfl
theorem oneRow : ((List.range Tryd.prog.types.size).filter fun t => Tryd.prog.rowNamed t [101, 114, 114, 111, 114]) = [26] := by kernel_rfl

theorem handle_of_laid {W : World} (h : laidMetH Tryd.prog Rows.onesSaysRow.laid W) : Handle W := by
  have h' : laidMet Tryd.prog [] W ∧ handlesMet Tryd.prog Rows.onesSaysRow.laid W := h
  obtain ⟨name, u, ty, e1, e2, e3, e4, e5⟩ := h'.2 _ (List.mem_singleton.2 rfl)
  have en : name = [101, 114, 114, 111, 114] := (Option.some.inj e1).symm
  subst en
  obtain rfl := Option.some.inj (rt.symm.trans e2)
  have hm : ty ∈ (List.range Tryd.prog.types.size).filter fun t => Tryd.prog.rowNamed t [101, 114, 114, 111, 114] := List.mem_filter.2 ⟨List.mem_range.2 e3, e4⟩
  rw [oneRow] at hm
  obtain rfl := List.mem_singleton.1 hm
  have hh : typeHandle Tryd.prog 26 = .pointer (some ⟨1, 26, none⟩) := by kernel_rfl
  rw [hh] at e5
  have e6 := World.var?_cell et e5 0
  unfold Handle
  simpa using e6

noncomputable def laidWorld (os : Os) : World :=
  { World.holding Tryd.prog os ⟨#[], #[], []⟩ with heap := (World.holding Tryd.prog os ⟨#[], #[], []⟩).heap.modify 0 fun
      | .cells _ t frozen => .cells #[.iface 70 (.agg #[.pointer (some ⟨1, 26, none⟩)])] t frozen
      | o => o }
theorem laid_met (os : Os) : laidMetH Tryd.prog Rows.onesSaysRow.laid ((laidWorld os).forCall (fun _ _ => 0) ⟨#[], #[.slice none 0 0, .int .i64 0, .int .i64 0, .int .i64 0], []⟩).memory :=
  laidMetH_of_parts (laidMet_nil _ _) (by kernel_rfl)
theorem reads_wit (os : Os) {H : Type} (enc : TypeId × Value → H) : ∃ places, DataW.whole enc Tryd.prog ((laidWorld os).forCall (fun _ _ => 0) ⟨#[], #[.slice none 0 0, .int .i64 0, .int .i64 0, .int .i64 0], []⟩).memory Tryd.f3.params.toList Rows.onesSaysSpec.vars false (#[.slice none 0 0, .int .i64 0, .int .i64 0, .int .i64 0] : Array Value).toList 8 = some ([.nil, .lit (.int .i64 0), .lit (.int .i64 0), .lit (.int .i64 0)], [], places) :=
  ⟨[], by kernel_rfl⟩

theorem contract (H : Type) (enc : TypeId × Value → H) (W : World) (base : Nat) (args : Array Value) (ds gs : List (DataW H)) (before : List MemPlace)
    (hval : ∀ (j : Nat) t v, Tryd.f3.params[j]? = some t → args[j]? = some v → Value.okWide Tryd.prog W .any base t v)
    (hW : DataW.Whole enc Tryd.prog Tryd.f3.params.toList Rows.onesSaysSpec.vars false W args.toList ds gs before) (hL : laidMetH Tryd.prog Rows.onesSaysRow.laid W) :
    Calls Tryd.prog 3 args W fun e W' => ∃ v, e = .returned v ∧ Rows.onesSaysSpec.post enc Tryd.prog Tryd.f3 false true false false W args v W' := by
  have hW' := hW
  have hg := handle_of_laid hL
  obtain ⟨p, q, hA0, hV, rfl, hfz, hnd⟩ := hW
  have hA : DataW.TrodAll enc Tryd.prog W 0 (fun _ => true) true Tryd.f3.params.toList args.toList ds p := hA0
  have hlt := hA.lt
  rw [Tryd.params3] at hA hval
  obtain ⟨v0, vs0, d0, ds0, p0, q0, hargs, rfl, rfl, h0, r0⟩ := trodAll_cons hA
  obtain ⟨v1, vs1, d1, ds1, p1, q1, hvs1, rfl, rfl, h1, r1⟩ := trodAll_cons r0
  obtain ⟨v2, vs2, d2, ds2, p2, q2, hvs2, rfl, rfl, h2, r2⟩ := trodAll_cons r1
  obtain ⟨v3, vs3, d3, ds3, p3, q3, hvs3, rfl, rfl, h3, r3⟩ := trodAll_cons r2
  obtain ⟨hvsn, rfl, rfl⟩ := trodAll_nil r3
  simp only [hvsn, hvs3, hvs2, hvs1] at hargs
  obtain rfl : args = #[v0, v1, v2, v3] := by cases args; simp_all
  obtain ⟨p0a, cap0, l0, rfl, i0⟩ := open_intsl Tryd.underlying22 Tryd.underlying3 (by kernel_rfl) (hval 0 22 v0 rfl rfl) h0 (fun x hx => hlt x (by simp [hx]))
  obtain ⟨a1, rfl, rfl, rfl, w1⟩ := open_int Tryd.underlying3 (hval 1 3 v1 rfl rfl) h1
  have b1 := bounds_int w1
  obtain ⟨a2, rfl, rfl, rfl, w2⟩ := open_int Tryd.underlying3 (hval 2 3 v2 rfl rfl) h2
  have b2 := bounds_int w2
  obtain ⟨a3, rfl, rfl, rfl, w3⟩ := open_int Tryd.underlying3 (hval 3 3 v3 rfl rfl) h3
  have b3 := bounds_int w3
  obtain ⟨rfl, rfl⟩ := trodVars_none hV
  clear hA0
  exact law_post 4 laid reads rfl Tryd.underlying4 rfl hW' ⟨rfl, rfl, rfl⟩ (law p0a cap0 l0 a1 a2 a3 W i0 hg w1 w2 w3)

set_option maxRecDepth 100000 in
theorem lifted (os : Os) (started : os.Started) (H : Type) (enc : TypeId × Value → H) (F : Stop.Interp) :
    ReturnsInHanded {} Tryd.checked os 3 .any ((OpenSpec.ofChange Rows.onesSaysSpec).preRow enc Tryd.prog Tryd.f3 Rows.onesSaysRow.domain false Rows.onesSaysRow.laid) (((OpenSpec.ofChange Rows.onesSaysSpec).at F).post enc Tryd.prog Tryd.f3 false true false false) := by
  obtain ⟨places, hx⟩ := reads_wit os enc
  refine returnsInHanded_of_row (C := Tryd.checked) (s := (OpenSpec.ofChange Rows.onesSaysSpec)) own started (by kernel_rfl) Tryd.func3
    (witness_row_at (enc := enc) (C := Tryd.checked) false (laidWorld os) #[.slice none 0 0, .int .i64 0, .int .i64 0, .int .i64 0] rfl (by kernel_rfl) (by kernel_rfl) (by kernel_rfl)
      (OpenSpec.preRow_of_cond 8 hx (by kernel_rfl) (fun k hk => by cases hk) (by kernel_rfl) (laid_met os))) ?_
  intro W base args ds gs before hval hW _ hcond _ hL _ _
  exact contract H enc W base args ds gs before hval hW hL

theorem said : Rows.OnesSaysSaid :=
  OpenClaim.holds_of_cond 3 Tryd.f3 rfl rfl rfl rfl rfl rfl rfl ⟨rfl, rfl, rfl, rfl, rfl⟩ rfl rfl rfl rfl rfl (by kernel_rfl) Tryd.func3 (by kernel_rfl)
    (of_decide_eq_true (by kernel_rfl)) (by unfold Func.isWrapper; first | (rw [if_pos (by decide +kernel)]; kernel_rfl) | (rw [if_neg (by decide +kernel)]; exact ⟨rfl, rfl⟩))
    (fun os started H enc _ F => by rw [OpenClaim.pre_eq_preRow]; exact lifted os started H enc F)

theorem plain (f : FuncId) (fn : Func) (hf : Tryd.pinned.checked.prog.funcNamed Rows.onesSaysRow.func = some f) (hfn : Tryd.pinned.checked.prog.funcs[f]? = some fn) :
    true = Tryd.pinned.checked.prog.looks [] ∧ ∀ (j : Nat) t, fn.params[j]? = some t → Tryd.pinned.checked.prog.wantsStandIn t = false := by
  obtain rfl : f = 3 := Option.some.inj ((show Tryd.prog.funcNamed Rows.onesSaysRow.func = some 3 by kernel_rfl).symm.trans hf) |>.symm
  obtain rfl : fn = Tryd.f3 := (Option.some.inj (Tryd.func3.symm.trans hfn)).symm
  refine ⟨by kernel_rfl, fun j t ht => ?_⟩
  have hall : Tryd.f3.params.toList.all (fun t => !Tryd.prog.wantsStandIn t) = true := by kernel_rfl
  have hm : t ∈ Tryd.f3.params.toList := by simpa using Array.mem_of_getElem? ht
  have := List.all_eq_true.1 hall t hm
  show Tryd.prog.wantsStandIn t = false
  simpa using this

theorem proved : Rows.OnesSaysCardSaid :=
  Claim7.holds_tied_plain_at .later [] _ _ _ _ said (fun _ h => by cases h) (by kernel_rfl) (fun _ h => by cases h) onesSays_row_tie rfl ⟨rfl, rfl⟩ (by kernel_rfl) rfl plain (by kernel_rfl)
end Go.Proofs.YtcdpkdhapdajgaaDoor.onesSaysP
