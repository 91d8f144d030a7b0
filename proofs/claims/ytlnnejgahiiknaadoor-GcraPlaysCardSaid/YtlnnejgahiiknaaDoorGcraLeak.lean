/- Package gcra: the contract of Leak. No statement is proved here. -/
import Derived.Test.YtlnnejgahiiknaaDoorGcra1
import Derived.Test.YtlnnejgahiiknaaDoorTruth
namespace Go.Proofs.YtlnnejgahiiknaaDoor.Gcra
open Go.ChangeShapes Go.WideShapes Go.ChangeAt Go.RowKit Go.Proofs.YtlnnejgahiiknaaDoor.Kit Go.Proofs.YtlnnejgahiiknaaDoor.App Go.Proofs.YtlnnejgahiiknaaDoor.Err Go.Proofs.YtlnnejgahiiknaaDoor.GcraMath Go.Proofs.YtlnnejgahiiknaaDoor.Truth
set_option linter.unusedVariables false
set_option maxRecDepth 20000
set_option maxHeartbeats 1000000

theorem leak_wrong (s x : Int) (p : Option Addr) (n cap : Nat) (w : World) (h : ¬ Right s x) : Calls Tryd.prog 5 #[.int .i64 s, .int .i64 x, .slice p n cap] w fun e w' => e = .returned (.tuple #[.slice none 0 0, er 1]) ∧ w' = w := by
  have F := Lib.hid (allowed_any s x w false (by rw [decide_eq_false h]))
  clear h
  go_enter Tryd.func5, Tryd.ntmps5
  go_wp2_with fail
  refine F.out.mono ?_; rintro e w1 ⟨rfl, rfl⟩
  go_wp2_with fail
  go_ret2
  exact ⟨rfl, rfl⟩
theorem leak_full (s x : Int) (p : Option Addr) (n cap : Nat) (w : World) (h : Right s x) (h2 : 200 < n) : Calls Tryd.prog 5 #[.int .i64 s, .int .i64 x, .slice p n cap] w fun e w' => e = .returned (.tuple #[.slice none 0 0, er 4]) ∧ w' = w := by
  have F := Lib.hid (allowed_any s x w true (by rw [decide_eq_true h]))
  have t1 : decide (200 < (n : Int)) = true := decide_eq_true (by omega)
  clear h h2
  go_enter Tryd.func5, Tryd.ntmps5
  go_wp2_with fail
  refine F.out.mono ?_; rintro e w1 ⟨rfl, rfl⟩
  go_wp2_with fail
  go_ret2
  exact ⟨rfl, rfl⟩
set_option maxHeartbeats 4000000 in
theorem leak_loop (s x : Int) (p : Option Addr) (n cap : Nat) (l : List Int) (w : World) (hn : n = l.length) (hi : Ints w p cap l) (h : Right s x) (h2 : n ≤ 200) (c : Int) (hc : bad 0 l = c) : Calls Tryd.prog 5 #[.int .i64 s, .int .i64 x, .slice p n cap] w fun e w' => ((c ≠ 0 ∧ e = .returned (.tuple #[.slice none 0 0, er c])) ∨ (c = 0 ∧ e = .returned (.tuple #[.slice (some ⟨w.heap.size, 0, none⟩) n n, .nilIface]) ∧ OwnT w' w.heap.size (.slice (some ⟨w.heap.size, 0, none⟩) n n) (mays s x l))) ∧ Below w.heap.size w w' := by
  have F := Lib.hid (allowed_any s x w true (by rw [decide_eq_true h]))
  have t1 : decide (200 < (n : Int)) = false := decide_eq_false (by omega)
  have hlen := hi.len_le
  rw [← hn] at hlen
  obtain ⟨w1, hm, hou, hg1⟩ := made_truth w n (by omega)
  have HI := Lib.hid hi
  have HN := Lib.hid hn
  have HR := Lib.hid hc
  have HO0 := Lib.hid (show OwnT w1 w.heap.size (.slice (some ⟨w.heap.size, 0, none⟩) n n) (half s x l 0) by rw [half_zero, ← hn]; exact hou)
  have HB0 : Hid (Below w.heap.size w w1) := Lib.hid ⟨hg1.os, hg1.tape, hg1.output, hg1.size, fun k hk => hg1.block k hk (by simp)⟩
  have HX0 := Lib.hid (⟨rfl, by simp [tat, pos], ok_new h, left_zero⟩ : (0 : Int) = lst l 0 ∧ (0 : Int) = pos (tat s x l 0 - 0) ∧ Ok s x (tat s x l 0) 0 ∧ Behind l 0)
  obtain ⟨⟨s1, s2⟩, x1, x2⟩ := h
  clear hi hn hc hou hg1
  go_enter Tryd.func5, Tryd.ntmps5
  go_wp2_with fail
  refine F.out.mono ?_; rintro e w0 ⟨rfl, rfl⟩
  clear F
  go_wp2_with fail
  clear hm
  go_loopw [9, 10, 28] (fun fv tv iv wr => ∃ (k : Nat) (F T : Int), k ≤ n ∧ iv = .int .i64 (k : Int) ∧ fv = .int .i64 F ∧ tv = .int .i64 T ∧ 0 ≤ F ∧ F ≤ 120 ∧ 0 ≤ T ∧ T ≤ 1000 ∧ Hid (T = lst l k ∧ F = pos (tat s x l k - T) ∧ Ok s x (tat s x l k) T ∧ Behind l k) ∧ Hid (OwnT wr w0.heap.size (.slice (some ⟨w0.heap.size, 0, none⟩) n n) (half s x l k)) ∧ Hid (Below w0.heap.size w0 wr)) (fun _ _ i _ => n - (intOf i).toNat)
  case atStart => exact ⟨0, 0, 0, Nat.zero_le _, rfl, rfl, rfl, by omega, by omega, by omega, by omega, HX0, HO0, HB0⟩
  case round =>
    obtain ⟨k, F, T, hk, rfl, rfl, rfl, hF0, hF1, hT0, hT1, HX, HO, HB⟩ := hrel
    clear HX0 HO0 HB0
    by_cases hlt : k < n
    · have hkl : k < l.length := by rw [← HN.out]; exact hlt
      obtain ⟨b, off, rfl, hbw, hcc⟩ := HI.out.2.2.2 (by omega)
      have hck := (HB.out.cell (p := ⟨b, off + k, none⟩) hbw).trans (hcc k hkl)
      clear hcc hbw
      obtain ⟨a, ha⟩ : ∃ a, l[k]?.getD 0 = a := ⟨_, rfl⟩
      have HA := Lib.hid (show tm l k = a from ha)
      rw [ha] at hck
      have HK := Lib.hid hkl
      clear ha hkl
      by_cases h1 : 0 ≤ a ∧ a ≤ 1000
      · by_cases h3 : a < T
        · have C := Lib.hid (fun W => check_state a T W h1 h3)
          rw [er_7] at C
          have HC := Lib.hid (show c = 7 by
            have hx := HX.out
            rw [← HR.out]
            exact left_state HK.out hx.2.2.2 (by rw [HA.out]; exact h1) (by rw [HA.out, ← hx.1]; exact h3))
          clear h1 h3
          go_wp2_with fail
          refine (C.out _).mono ?_; rintro e w2 ⟨rfl, rfl⟩
          go_wp2_with fail
          go_ret2
          exact ⟨.inl ⟨by rw [HC.out]; decide, by rw [HC.out]; rfl⟩, HB.out⟩
        · have C := Lib.hid (fun W => check_good a T W h1 h3)
          have HX2 := HX.out
          obtain ⟨hT, hF, hO, hL⟩ := HX2
          have hmx : (if 0 < F - (a - T) then F - (a - T) else 0) = pos (tat s x l k - a) := by
            rw [← pos_step (n := tat s x l k) (t := T) (a := a) (by omega), ← hF]; rfl
          have hp := pos_in (tat s x l k - a)
          have hOk := hO
          obtain ⟨_, o5, o6, o7, o8⟩ := hOk
          have HL := Lib.hid (left_step HK.out hL (by rw [HA.out]; exact h1) (by rw [HA.out, ← hT]; exact h3))
          have HO2 := Lib.hid (show Ok s x (tat s x l (k + 1)) a by
            show Ok s x (nxt s x (tat s x l k) (tm l k)) a
            rw [HA.out]
            exact ok_nxt hO h1 (by omega))
          have hmy := pos_may (a := a) hO
          by_cases hm : pos (tat s x l k - a) ≤ x
          · have hm2 := hmy.1 hm
            have hmt : mayAt s x l k = true := decide_eq_true (by rw [HA.out]; exact hm2)
            have hy := pos_yes hO hm2
            have HY := Lib.hid (half_yes HK.out hmt)
            have t5 : decide (pos (tat s x l k - a) ≤ x) = true := decide_eq_true hm
            have HE := Lib.hid (show (a = lst l (k + 1) ∧ pos (tat s x l k - a) + s = pos (tat s x l (k + 1) - a)) from ⟨HA.out.symm, by rw [hy]; show _ = pos (nxt s x (tat s x l k) (tm l k) - a); rw [HA.out]⟩)
            generalize pos (tat s x l k - a) = F2 at hmx hp t5 HE hm
            have fz := HO.out.fz k
            have cz := HO.out.cell k false (half_get HK.out)
            clear hy hmt hm2 hmy hT hF hO hL HX o5 o6 o7 o8
            obtain ⟨a1, a2⟩ := h1
            obtain ⟨p1, p2, p3⟩ := hp
            clear p2 p3
            have hz : (0 < F - (a - T) ∧ F - (a - T) = F2) ∨ (¬ 0 < F - (a - T) ∧ 0 = F2) := by
              by_cases hz : 0 < F - (a - T)
              · rw [if_pos hz] at hmx; exact .inl ⟨hz, hmx⟩
              · rw [if_neg hz] at hmx; exact .inr ⟨hz, hmx⟩
            clear hmx
            rcases hz with ⟨hz, rfl⟩ | ⟨hz, rfl⟩
            all_goals
              go_wp2_with fail
              refine (C.out _).mono ?_; rintro e w2 ⟨rfl, rfl⟩
              go_wp2_with fail
              go_roundw
              case rel => exact ⟨k + 1, _, a, by omega, by first | rfl | go_num, rfl, rfl, by omega, by omega, by omega, by omega, Lib.hid ⟨HE.out.1, by first | exact HE.out.2 | (have he := HE.out.2; rw [Int.zero_add] at he; exact he), HO2.out, HL.out⟩, Lib.hid (by rw [← HY.out]; exact HO.out.set k true), Lib.hid (below_set HB.out w0.heap.size k _ (Nat.le_refl _))⟩
              case measure => simp [intOf]; omega
          · have hm2 : ¬ tat s x l k - x ≤ a := fun h => hm (hmy.2 h)
            have hmt : mayAt s x l k = false := decide_eq_false (by rw [HA.out]; exact hm2)
            have hy := pos_no (s := s) (t := T) hm2
            have HY := Lib.hid (half_no (s := s) (x := x) HK.out hmt)
            have t5 : decide (pos (tat s x l k - a) ≤ x) = false := decide_eq_false hm
            have HE := Lib.hid (show (a = lst l (k + 1) ∧ pos (tat s x l k - a) = pos (tat s x l (k + 1) - a)) from ⟨HA.out.symm, by rw [hy]; show _ = pos (nxt s x (tat s x l k) (tm l k) - a); rw [HA.out]⟩)
            have hp9 : pos (tat s x l k - a) ≤ 120 := by rcases hp.2.2 with h | h <;> omega
            generalize pos (tat s x l k - a) = F2 at hmx hp t5 HE hm hp9
            clear hy hmt hm2 hmy hT hF hO hL HX o5 o6 o7 o8
            obtain ⟨a1, a2⟩ := h1
            obtain ⟨p1, p2, p3⟩ := hp
            clear p2 p3
            have hz : 0 < F - (a - T) ∧ F - (a - T) = F2 := by
              by_cases hz : 0 < F - (a - T)
              · rw [if_pos hz] at hmx; exact ⟨hz, hmx⟩
              · rw [if_neg hz] at hmx; omega
            clear hmx
            obtain ⟨hz, rfl⟩ := hz
            go_wp2_with fail
            refine (C.out _).mono ?_; rintro e w2 ⟨rfl, rfl⟩
            go_wp2_with fail
            go_roundw
            case rel => exact ⟨k + 1, _, a, by omega, by first | rfl | go_num, rfl, rfl, by omega, by omega, by omega, by omega, Lib.hid ⟨HE.out.1, HE.out.2, HO2.out, HL.out⟩, Lib.hid (by rw [← HY.out]; exact HO.out), HB⟩
            case measure => simp [intOf]; omega
      · have C := Lib.hid (fun W => check_range a T W h1)
        rw [er_1] at C
        have HC := Lib.hid (show c = 1 by
          have hx := HX.out
          rw [← HR.out]
          exact left_range HK.out hx.2.2.2 (by rw [HA.out]; exact h1))
        clear h1
        go_wp2_with fail
        refine (C.out _).mono ?_; rintro e w2 ⟨rfl, rfl⟩
        go_wp2_with fail
        go_ret2
        exact ⟨.inl ⟨by rw [HC.out]; decide, by rw [HC.out]; rfl⟩, HB.out⟩
    · obtain rfl : k = n := by omega
      have HC := Lib.hid (show c = 0 by
        rw [← HR.out]
        exact left_end (by rw [← HN.out]; exact HX.out.2.2.2))
      have HE := Lib.hid (show OwnT wr w0.heap.size (.slice (some ⟨w0.heap.size, 0, none⟩) k k) (mays s x l) by rw [← half_end, ← HN.out]; exact HO.out)
      clear HO HX
      go_wp2_with fail
      go_ret2
      exact ⟨.inr ⟨HC.out, rfl, HE.out⟩, HB.out⟩
theorem leak_any (s x : Int) (p : Option Addr) (n cap : Nat) (l : List Int) (w : World) (hn : n = l.length) (hi : Ints w p cap l) (c : Int) (hc : code s x l = c) : Calls Tryd.prog 5 #[.int .i64 s, .int .i64 x, .slice p n cap] w fun e w' => ((c ≠ 0 ∧ e = .returned (.tuple #[.slice none 0 0, er c])) ∨ (c = 0 ∧ e = .returned (.tuple #[.slice (some ⟨w.heap.size, 0, none⟩) n n, .nilIface]) ∧ OwnT w' w.heap.size (.slice (some ⟨w.heap.size, 0, none⟩) n n) (mays s x l))) ∧ Below w.heap.size w w' := by
  unfold code at hc
  by_cases h : Right s x
  · rw [if_pos h] at hc
    by_cases h2 : 200 < n
    · rw [if_pos (by rw [← hn]; exact h2)] at hc
      subst hc
      exact (leak_full s x p n cap w h h2).mono fun e w' ⟨h1, h2⟩ => ⟨.inl ⟨by decide, h1⟩, by rw [h2]; exact brefl w⟩
    · rw [if_neg (by rw [← hn]; exact h2)] at hc
      exact leak_loop s x p n cap l w hn hi h (by omega) c hc
  · rw [if_neg h] at hc
    subst hc
    exact (leak_wrong s x p n cap w h).mono fun e w' ⟨h1, h2⟩ => ⟨.inl ⟨by decide, h1⟩, by rw [h2]; exact brefl w⟩
theorem leak_no (s x : Int) (p : Option Addr) (n cap : Nat) (l : List Int) (w : World) (hn : n = l.length) (hi : Ints w p cap l) (c : Int) (hc : code s x l = c) (h0 : c ≠ 0) : Calls Tryd.prog 5 #[.int .i64 s, .int .i64 x, .slice p n cap] w fun e w' => e = .returned (.tuple #[.slice none 0 0, .iface 42 (.int .i64 c)]) ∧ Below w.heap.size w w' :=
  (leak_any s x p n cap l w hn hi c hc).mono fun e w' ⟨h1, h2⟩ => by
    rcases h1 with ⟨_, h1⟩ | ⟨h3, _⟩
    · unfold er at h1
      rw [if_neg h0] at h1
      exact ⟨h1, h2⟩
    · exact absurd h3 h0
theorem leak_yes (s x : Int) (p : Option Addr) (n cap : Nat) (l : List Int) (w : World) (hn : n = l.length) (hi : Ints w p cap l) (hc : code s x l = 0) : Calls Tryd.prog 5 #[.int .i64 s, .int .i64 x, .slice p n cap] w fun e w' => e = .returned (.tuple #[.slice (some ⟨w.heap.size, 0, none⟩) n n, .nilIface]) ∧ OwnT w' w.heap.size (.slice (some ⟨w.heap.size, 0, none⟩) n n) (mays s x l) ∧ Below w.heap.size w w' :=
  (leak_any s x p n cap l w hn hi 0 hc).mono fun e w' ⟨h1, h2⟩ => by
    rcases h1 with ⟨h3, _⟩ | ⟨_, h3, h4⟩
    · exact absurd rfl h3
    · exact ⟨h3, h4, h2⟩
end Go.Proofs.YtlnnejgahiiknaaDoor.Gcra
