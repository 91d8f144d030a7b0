/- Contracts of check, slices.Index, slices.Contains and cutBlock of package cobs. No statement is proved here. -/
import Derived.Test.YtooicigocljomaaDoorSub
import Derived.Test.YtooicigocljomaaDoorCobsMath
import Derived.RegionTactic
namespace Go.Proofs.YtooicigocljomaaDoor.Cobs
open Go.ChangeShapes Go.WideShapes Go.ChangeAt Go.RowKit
open Go.Proofs.YtooicigocljomaaDoor.Kit Go.Proofs.YtooicigocljomaaDoor.App Go.Proofs.YtooicigocljomaaDoor.CobsMath
set_option linter.unusedVariables false
set_option maxRecDepth 20000

/-- What is wrong with some numbers. -/
def bad (lim : Nat) (l : List Int) : Int := if lim < l.length then 4 else if byt l = true then 0 else 1
theorem bad_zero {lim : Nat} {l : List Int} (h : bad lim l = 0) : l.length ≤ lim ∧ byt l = true := by
  unfold bad at h
  by_cases h1 : lim < l.length
  · simp [h1] at h
  · rw [if_neg h1] at h
    split at h
    · rename_i h2; exact ⟨by omega, h2⟩
    · cases h
theorem bad_of {lim : Nat} {l : List Int} (h : l.length ≤ lim) (hb : byt l = true) : bad lim l = 0 := by
  unfold bad; rw [if_neg (by omega), if_pos hb]

theorem check_full (lim : Nat) (p : Option Addr) (cap n : Nat) (l : List Int) (w : World) (hn : n = l.length) (h : Ints w p cap l) (hm : lim ≤ 10000) (hl : lim < l.length) :
    Calls Tryd.prog 35 #[.slice p n cap, .int .i64 lim] w fun e w' => e = .returned (.iface 45 (.int .i64 4)) ∧ w = w' := by
  subst hn
  have hlen := h.len_le
  have t0 : decide ((l.length : Int) > (lim : Int)) = true := decide_eq_true (by omega)
  go_enter Tryd.func35, Tryd.ntmps35
  go_wp2
  go_ret
  exact ⟨rfl, rfl⟩

set_option maxHeartbeats 400000 in
theorem check_loop (lim : Nat) (p : Option Addr) (cap n : Nat) (l : List Int) (w : World) (hn : n = l.length) (h : Ints w p cap l) (hm : lim ≤ 10000) (hl : l.length ≤ lim) (R : Value) (hR0 : R = if byt l = true then .nilIface else .iface 45 (.int .i64 1)) :
    Calls Tryd.prog 35 #[.slice p n cap, .int .i64 lim] w fun e w' => e = .returned R ∧ w = w' := by
  subst hn
  have hR := Lib.hid hR0
  clear hR0
  have hlen := h.len_le
  have t0 : decide ((l.length : Int) > (lim : Int)) = false := decide_eq_false (by omega)
  go_enter Tryd.func35, Tryd.ntmps35
  go_wp2
  go_loop [14] (fun i => ∃ k : Nat, k ≤ l.length ∧ i = .int .i64 k ∧ Hid (∀ j : Nat, j < k → 0 ≤ l[j]?.getD 0 ∧ l[j]?.getD 0 ≤ 255)) (fun i => l.length - (intOf i).toNat)
  case atStart => exact ⟨0, Nat.zero_le _, rfl, fun j hj => absurd hj (Nat.not_lt_zero _)⟩
  case round =>
    obtain ⟨k, hk, rfl, H⟩ := hrel
    by_cases hlt : k < l.length
    · obtain ⟨b, off, rfl, _, hc⟩ := h.2.2.2 (by omega)
      have hck := hc k hlt
      clear hc h
      obtain ⟨x, hx⟩ : ∃ x, l[k]?.getD 0 = x := ⟨_, rfl⟩
      rw [hx] at hck
      have Hx := Lib.hid hx
      clear hx
      by_cases h1 : x < 0
      · have t1 : decide (x < 0) = true := decide_eq_true h1
        go_wp2
        go_ret
        exact ⟨by rw [hR.out, byt_false (k := k) (by rw [Hx.out]; omega)]; rfl, rfl⟩
      · have t1 : decide (x < 0) = false := decide_eq_false h1
        by_cases h2 : x > 255
        · have t2 : decide (x > 255) = true := decide_eq_true h2
          go_wp2
          go_ret
          exact ⟨by rw [hR.out, byt_false (k := k) (by rw [Hx.out]; omega)]; rfl, rfl⟩
        · have t2 : decide (x > 255) = false := decide_eq_false h2
          go_wp2
          go_round
          case rel => exact ⟨k + 1, by omega, by go_num, fun j hj => by
            by_cases e : j = k
            · rw [e, Hx.out]; omega
            · exact H.out j (by omega)⟩
          case measure => simp [intOf]; omega
    · obtain rfl : k = l.length := by omega
      go_wp2
      go_ret
      exact ⟨by rw [hR.out, byt_of H.out]; rfl, rfl⟩

theorem check_bad (lim : Nat) (p : Option Addr) (cap n : Nat) (l : List Int) (w : World) (hn : n = l.length) (h : Ints w p cap l) (hm : lim ≤ 10000) (m : Int) (hm2 : bad lim l = m) (h0 : m ≠ 0) :
    Calls Tryd.prog 35 #[.slice p n cap, .int .i64 lim] w fun e w' => e = .returned (.iface 45 (.int .i64 m)) ∧ w = w' := by
  subst hm2
  by_cases h1 : lim < l.length
  · rw [show bad lim l = 4 by unfold bad; rw [if_pos h1]]
    exact check_full lim p cap n l w hn h hm h1
  · have hb : byt l = false := by
      cases hb : byt l with
      | false => rfl
      | true => exact absurd (bad_of (by omega) hb) h0
    rw [show bad lim l = 1 by unfold bad; rw [if_neg h1, hb]; rfl]
    exact check_loop lim p cap n l w hn h hm (by omega) _ (by rw [hb]; rfl)
theorem check_good (lim : Nat) (p : Option Addr) (cap n : Nat) (l : List Int) (w : World) (hn : n = l.length) (h : Ints w p cap l) (hm : lim ≤ 10000) (h0 : bad lim l = 0) :
    Calls Tryd.prog 35 #[.slice p n cap, .int .i64 lim] w fun e w' => e = .returned .nilIface ∧ w = w' := by
  exact check_loop lim p cap n l w hn h hm (bad_zero h0).1 _ (by rw [(bad_zero h0).2]; rfl)

set_option maxHeartbeats 400000 in
theorem index_any (p : Option Addr) (cap n : Nat) (l : List Int) (w : World) (hn : n = l.length) (h : Ints w p cap l) (R : Int) (hR0 : R = if run l < l.length then (run l : Int) else -1) :
    Calls Tryd.prog 44 #[.slice p n cap, .int .i64 0] w fun e w' => e = .returned (.int .i64 R) ∧ w = w' := by
  subst hn
  have hR := Lib.hid hR0
  clear hR0
  have hlen := h.len_le
  go_enter Tryd.func44, Tryd.ntmps44
  go_wp2
  go_loop [8] (fun i => ∃ k : Nat, k ≤ l.length ∧ i = .int .i64 k ∧ Hid (∀ j : Nat, j < k → l[j]?.getD 0 ≠ 0)) (fun i => l.length - (intOf i).toNat)
  case atStart => exact ⟨0, Nat.zero_le _, rfl, fun j hj => absurd hj (Nat.not_lt_zero _)⟩
  case round =>
    obtain ⟨k, hk, rfl, H⟩ := hrel
    by_cases hlt : k < l.length
    · obtain ⟨b, off, rfl, _, hc⟩ := h.2.2.2 (by omega)
      have hck := hc k hlt
      clear hc h
      obtain ⟨x, hx⟩ : ∃ x, l[k]?.getD 0 = x := ⟨_, rfl⟩
      rw [hx] at hck
      have Hx := Lib.hid hx
      clear hx
      by_cases h1 : x = 0
      · subst h1
        have e1 : R = (k : Int) := by
          have := run_of hk H.out (fun _ => Hx.out)
          rw [hR.out, this, if_pos hlt]
        have E1 := Lib.hid e1
        clear e1
        go_wp2
        go_ret
        exact ⟨by rw [E1.out]; rfl, rfl⟩
      · have t1 : ((0 : Int) == x) = false := by rw [beq_eq_false_iff_ne]; omega
        go_wp2
        go_round
        case rel => exact ⟨k + 1, by omega, by go_num, fun j hj => by
          by_cases e : j = k
          · rw [e, Hx.out]; exact h1
          · exact H.out j (by omega)⟩
        case measure => simp [intOf]; omega
    · obtain rfl : k = l.length := by omega
      have e1 : R = -1 := by
        have := run_of hk H.out (fun hh => absurd hh (by omega))
        rw [hR.out, if_neg (by omega)]
      have E1 := Lib.hid e1
      clear e1
      go_wp2
      go_ret
      exact ⟨by rw [E1.out]; rfl, rfl⟩

theorem contains_any (p : Option Addr) (cap n : Nat) (l : List Int) (w : World) (hn : n = l.length) (h : Ints w p cap l) (R : Bool) (hR0 : R = decide (run l < l.length)) :
    Calls Tryd.prog 45 #[.slice p n cap, .int .i64 0] w fun e w' => e = .returned (.bool R) ∧ w = w'   := by
  subst hn
  obtain ⟨i, hi⟩ : ∃ i, i = if run l < l.length then (run l : Int) else -1 := ⟨_, rfl⟩
  have C := Lib.hid (index_any p cap _ l w rfl h i hi)
  have t : decide (i ≥ 0) = R := by
    rw [hR0, hi]
    by_cases h1 : run l < l.length
    · rw [if_pos h1]; simp [h1]
    · rw [if_neg h1]; simp [h1]
  have T := Lib.hid t
  clear hi hR0 t
  go_enter Tryd.func45, Tryd.ntmps45
  go_wp2_with fail
  refine C.out.mono ?_; rintro e w' ⟨rfl, rfl⟩
  go_wp2_with fail
  go_ret
  exact ⟨by rw [← T.out]; rfl, rfl⟩

/-- What cutBlock gives of the rest. -/
def Rest (p : Option Addr) (cap : Nat) (l : List Int) (v : Value) (more : Bool) : Prop :=
  (l.length ≤ cut l ∧ v = .slice none 0 0 ∧ more = false) ∨
  (¬ l.length ≤ cut l ∧ more = true ∧ ∃ p2 c2, v = .slice p2 (nxt l).length c2 ∧ ∀ W, Ints W p cap l → Ints W p2 c2 (nxt l))


def CutPost (p : Option Addr) (cap : Nat) (l : List Int) (w : World) (e : Ending) (w' : World) : Prop :=
  ∃ p1 c1 v2 more, e = .returned (.tuple #[.slice p1 (cut l) c1, v2, .bool more]) ∧ (∀ W, Ints W p cap l → Ints W p1 c1 (l.take (cut l))) ∧ Rest p cap l v2 more ∧ Below w.heap.size w w'

set_option maxHeartbeats 1000000 in
theorem cut_end (p : Option Addr) (cap n : Nat) (l : List Int) (w : World) (hn : n = l.length) (h : Ints w p cap l) (hr : run l = l.length) (hl : l.length ≤ 254) :
    Calls Tryd.prog 36 #[.slice p n cap] w (CutPost p cap l w) := by
  have C := Lib.hid (index_any p cap n l w hn h (-1) (by rw [if_neg (by omega)]))
  subst hn
  have hc : cut l = l.length := by unfold cut; omega
  have hcap := h.1
  have hcapm := h.2.1
  have hcapm' : cap ≤ 9223372036854775807 := by unfold maxLen at hcapm; omega
  have t1 : (l.length : Int) ≤ 254 := by omega
  have hres : ∀ p1 : Option Addr, (l.length = 0 ∨ p1 = p) → ∀ c1 : Nat, l.length ≤ c1 → c1 ≤ cap → CutPost p cap l w (.returned (.tuple #[.slice p1 l.length c1, .slice none 0 0, .bool false])) w.drew := by
    intro p1 hp1 c1 h1 h2
    refine ⟨p1, c1, _, _, by rw [hc], fun W hW => ?_, .inl ⟨by omega, rfl, rfl⟩, (brefl w).drew⟩
    rw [hc, List.take_of_length_le (Nat.le_refl _)]
    rcases hp1 with h0 | rfl
    · exact ints_none W p1 c1 l (by omega) (List.eq_nil_of_length_eq_zero h0)
    · exact ⟨h1, by omega, hW.2.2.1, hW.2.2.2⟩
  have HR := Lib.hid hres
  clear hres hr
  by_cases h0 : l.length = 0
  · have hn := List.eq_nil_of_length_eq_zero h0
    subst hn
    clear h
    go_enter Tryd.func36, Tryd.ntmps36
    go_wp2_with fail
    refine C.out.mono ?_; rintro e w' ⟨rfl, rfl⟩
    go_wp2_with fail
    cases p with
    | none =>
      go_wp2_with (go_region)
      all_goals go_ret3
      all_goals exact HR.out _ (.inl rfl) _ (by simp) (by first | simp | omega)
    | some a =>
      go_wp2_with (go_region)
      all_goals go_ret3
      all_goals exact HR.out _ (.inl rfl) _ (by simp) (by first | simp | omega)
  · obtain ⟨b, off, rfl, hbw, _⟩ := h.2.2.2 (by omega)
    clear h
    go_enter Tryd.func36, Tryd.ntmps36
    go_wp2_with fail
    refine C.out.mono ?_; rintro e w' ⟨rfl, rfl⟩
    go_wp2_with fail
    go_wp2_with (go_region)
    · go_ret3
      have e8 : l.length = cap := by omega
      have := HR.out _ (.inr rfl) cap (by omega) (by omega)
      rw [← e8] at this
      exact this
    · go_ret3
      exact HR.out _ (.inr rfl) _ (by omega) (by omega)

set_option maxHeartbeats 1000000 in
theorem cut_full1 (p : Option Addr) (cap n : Nat) (l : List Int) (w : World) (hn : n = l.length) (h : Ints w p cap l) (hr : run l = l.length) (hl : 254 < l.length) (hl2 : l.length ≤ 1000) :
    Calls Tryd.prog 36 #[.slice p n cap] w (CutPost p cap l w) := by
  have C := Lib.hid (index_any p cap n l w hn h (-1) (by rw [if_neg (by omega)]))
  subst hn
  have hc : cut l = 254 := by unfold cut; omega
  have hcap := h.1
  have hcapm := h.2.1
  have hcapm' : cap ≤ 9223372036854775807 := by unfold maxLen at hcapm; omega
  obtain ⟨b, off, rfl, hbw, hcell⟩ := h.2.2.2 (by omega)
  clear hcell
  have hnl : (nxt l).length = l.length - 254 := by rw [nxt_len (by omega), hc]; rfl
  have hnx : nxt l = l.drop 254 := by unfold nxt; rw [hc]; rfl
  have hres : ∀ c1 c2 : Nat, 254 ≤ c1 → c1 ≤ cap → l.length - 254 ≤ c2 → c2 ≤ cap → CutPost (some ⟨b, off, none⟩) cap l w (.returned (.tuple #[.slice (some ⟨b, off, none⟩) 254 c1, .slice (some ⟨b, off + 254, none⟩) (l.length - 254) c2, .bool true])) w.drew := by
    intro c1 c2 h1 h2 h3 h4
    refine ⟨_, c1, _, _, by rw [hc], fun W hW => ?_, .inr ⟨by omega, rfl, _, _, by rw [hnl], fun W hW => ?_⟩, (brefl w).drew⟩
    · rw [hc]; exact ints_cut hW 254 (by omega) c1 h1 (by omega)
    · rw [hnx]; exact ints_tail hW 254 c2 (by omega) h3 (by omega)
  have HR := Lib.hid hres
  clear hres hc hnl hnx h hr
  have f1 : 254 ≤ cap := by omega
  have f2 : 254 ≤ l.length := by omega
  have t3 : (((l.length - 254 : Nat) : Int) == 0) = false := by rw [beq_eq_false_iff_ne]; omega
  have t1 : ¬ (l.length : Int) ≤ 254 := by omega
  go_enter Tryd.func36, Tryd.ntmps36
  go_wp2_with fail
  refine C.out.mono ?_; rintro e w' ⟨rfl, rfl⟩
  go_wp2_with fail
  go_region
  go_wp2_with fail
  go_ret3
  exact HR.out _ _ (by omega) (by omega) (by omega) (by omega)

set_option maxHeartbeats 1000000 in
theorem cut_full2 (p : Option Addr) (cap n : Nat) (l : List Int) (w : World) (hn : n = l.length) (h : Ints w p cap l) (r : Nat) (hr : run l = r) (hr2 : r < l.length) (hr3 : 254 < r) (hl : 254 < l.length) (hl2 : l.length ≤ 1000) :
    Calls Tryd.prog 36 #[.slice p n cap] w (CutPost p cap l w) := by
  have C := Lib.hid (index_any p cap n l w hn h r (by rw [hr, if_pos hr2]))
  subst hn
  have hc : cut l = 254 := by unfold cut; omega
  have hcap := h.1
  have hcapm := h.2.1
  have hcapm' : cap ≤ 9223372036854775807 := by unfold maxLen at hcapm; omega
  obtain ⟨b, off, rfl, hbw, hcell⟩ := h.2.2.2 (by omega)
  clear hcell
  have hnl : (nxt l).length = l.length - 254 := by rw [nxt_len (by omega), hc]; rfl
  have hnx : nxt l = l.drop 254 := by unfold nxt; rw [hc]; rfl
  have hres : ∀ c1 c2 : Nat, 254 ≤ c1 → c1 ≤ cap → l.length - 254 ≤ c2 → c2 ≤ cap → CutPost (some ⟨b, off, none⟩) cap l w (.returned (.tuple #[.slice (some ⟨b, off, none⟩) 254 c1, .slice (some ⟨b, off + 254, none⟩) (l.length - 254) c2, .bool true])) w.drew := by
    intro c1 c2 h1 h2 h3 h4
    refine ⟨_, c1, _, _, by rw [hc], fun W hW => ?_, .inr ⟨by omega, rfl, _, _, by rw [hnl], fun W hW => ?_⟩, (brefl w).drew⟩
    · rw [hc]; exact ints_cut hW 254 (by omega) c1 h1 (by omega)
    · rw [hnx]; exact ints_tail hW 254 c2 (by omega) h3 (by omega)
  have HR := Lib.hid hres
  clear hres hc hnl hnx h hr
  have f1 : 254 ≤ cap := by omega
  have f2 : 254 ≤ l.length := by omega
  have t3 : (((l.length - 254 : Nat) : Int) == 0) = false := by rw [beq_eq_false_iff_ne]; omega
  have t1 : ¬ (r : Int) ≤ 254 := by omega
  have t2 : decide ((r : Int) < 0) = false := decide_eq_false (by omega)
  go_enter Tryd.func36, Tryd.ntmps36
  go_wp2_with fail
  refine C.out.mono ?_; rintro e w' ⟨rfl, rfl⟩
  go_wp2_with fail
  go_region
  go_wp2_with fail
  go_ret3
  exact HR.out _ _ (by omega) (by omega) (by omega) (by omega)

set_option maxHeartbeats 1000000 in
theorem cut_full3 (p : Option Addr) (cap n : Nat) (l : List Int) (w : World) (hn : n = l.length) (h : Ints w p cap l) (hr : run l = 254) (hl : 254 < l.length) (hl2 : l.length ≤ 1000) :
    Calls Tryd.prog 36 #[.slice p n cap] w (CutPost p cap l w) := by
  have C := Lib.hid (index_any p cap n l w hn h 254 (by rw [hr, if_pos hl]; rfl))
  subst hn
  have hc : cut l = 254 := by unfold cut; omega
  have hcap := h.1
  have hcapm := h.2.1
  have hcapm' : cap ≤ 9223372036854775807 := by unfold maxLen at hcapm; omega
  obtain ⟨b, off, rfl, hbw, hcell⟩ := h.2.2.2 (by omega)
  clear hcell
  have hnl : (nxt l).length = l.length - 254 := by rw [nxt_len (by omega), hc]; rfl
  have hnx : nxt l = l.drop 254 := by unfold nxt; rw [hc]; rfl
  have hres : ∀ c1 c2 : Nat, 254 ≤ c1 → c1 ≤ cap → l.length - 254 ≤ c2 → c2 ≤ cap → CutPost (some ⟨b, off, none⟩) cap l w (.returned (.tuple #[.slice (some ⟨b, off, none⟩) 254 c1, .slice (some ⟨b, off + 254, none⟩) (l.length - 254) c2, .bool true])) w.drew := by
    intro c1 c2 h1 h2 h3 h4
    refine ⟨_, c1, _, _, by rw [hc], fun W hW => ?_, .inr ⟨by omega, rfl, _, _, by rw [hnl], fun W hW => ?_⟩, (brefl w).drew⟩
    · rw [hc]; exact ints_cut hW 254 (by omega) c1 h1 (by omega)
    · rw [hnx]; exact ints_tail hW 254 c2 (by omega) h3 (by omega)
  have HR := Lib.hid hres
  clear hres hc hnl hnx h hr
  have f1 : 254 ≤ cap := by omega
  have f2 : 254 ≤ l.length := by omega
  have t3 : (((l.length - 254 : Nat) : Int) == 0) = false := by rw [beq_eq_false_iff_ne]; omega
  go_enter Tryd.func36, Tryd.ntmps36
  go_wp2_with fail
  refine C.out.mono ?_; rintro e w' ⟨rfl, rfl⟩
  go_wp2_with fail
  go_region
  go_wp2_with fail
  go_ret3
  exact HR.out _ _ (by omega) (by omega) (by omega) (by omega)

set_option maxHeartbeats 1000000 in
theorem cut_mid (p : Option Addr) (cap n : Nat) (l : List Int) (w : World) (hn : n = l.length) (h : Ints w p cap l) (r : Nat) (hr : run l = r) (hr2 : r < l.length) (hr3 : r < 254) (hl2 : l.length ≤ 1000) :
    Calls Tryd.prog 36 #[.slice p n cap] w (CutPost p cap l w) := by
  have C := Lib.hid (index_any p cap n l w hn h r (by rw [hr, if_pos hr2]))
  subst hn
  have hc : cut l = r := by unfold cut; omega
  have hcap := h.1
  have hcapm := h.2.1
  have hcapm' : cap ≤ 9223372036854775807 := by unfold maxLen at hcapm; omega
  obtain ⟨b, off, rfl, hbw, hcell⟩ := h.2.2.2 (by omega)
  clear hcell
  have hnl : (nxt l).length = l.length - (r + 1) := by rw [nxt_len (by omega), hc, if_pos hr3]
  have hnx : nxt l = l.drop (r + 1) := by unfold nxt; rw [hc, if_pos hr3]
  have hres : ∀ (p2 : Option Addr) (n2 c1 c2 : Nat), r ≤ c1 → c1 ≤ cap → (p2 = some ⟨b, off + (r + 1), none⟩ ∨ l.length = r + 1) → n2 = l.length - (r + 1) → l.length - (r + 1) ≤ c2 → c2 ≤ cap → CutPost (some ⟨b, off, none⟩) cap l w (.returned (.tuple #[.slice (some ⟨b, off, none⟩) r c1, .slice p2 n2 c2, .bool true])) w.drew := by
    intro p2 n2 c1 c2 h1 h2 hp hn2 h3 h4
    subst hn2
    refine ⟨_, c1, _, _, by rw [hc], fun W hW => ?_, .inr ⟨by omega, rfl, _, _, by rw [hnl], fun W hW => ?_⟩, (brefl w).drew⟩
    · rw [hc]; exact ints_cut hW r (by omega) c1 h1 (by omega)
    · rw [hnx]
      rcases hp with rfl | hp
      · exact ints_tail hW (r + 1) c2 (by omega) h3 (by omega)
      · exact ints_none W _ c2 _ (by omega) (List.drop_eq_nil_of_le (by omega))
  have HR := Lib.hid hres
  clear hres hc hnl hnx h hr
  have f1 : r ≤ cap := by omega
  have f2 : r ≤ l.length := by omega
  have t4 : decide ((r : Int) < 254) = true := decide_eq_true (by omega)
  have t1 : (r : Int) ≤ 254 := by omega
  have t2 : decide ((r : Int) < 0) = false := decide_eq_false (by omega)
  go_enter Tryd.func36, Tryd.ntmps36
  go_wp2_with fail
  refine C.out.mono ?_; rintro e w' ⟨rfl, rfl⟩
  go_wp2_with fail
  go_region
  generalize hm : l.length - r = m
  generalize hk : cap - r = c
  have f3 : 1 ≤ m := by omega
  have f4 : m ≤ c := by omega
  have f5 : 1 ≤ c := by omega
  have t3 : ((m : Int) == 0) = false := by rw [beq_eq_false_iff_ne]; omega
  have hm' := Lib.hid hm
  have hk' := Lib.hid hk
  clear hm hk
  go_wp2_with fail
  · have e1 := hm'.out
    go_ret3
    exact HR.out _ _ _ _ (by omega) (by omega) (.inr (by omega)) (by omega) (by omega) (by omega)
  · have e1 := hm'.out
    have e2 := hk'.out
    go_ret3
    exact HR.out _ _ _ _ (by omega) (by omega) (.inl rfl) (by omega) (by omega) (by omega)

theorem cut_any (p : Option Addr) (cap n : Nat) (l : List Int) (w : World) (hn : n = l.length) (h : Ints w p cap l) (hl : l.length ≤ 1000) :
    Calls Tryd.prog 36 #[.slice p n cap] w (CutPost p cap l w) := by
  have hrl := run_le l
  by_cases h1 : run l = l.length
  · by_cases h2 : l.length ≤ 254
    · exact cut_end p cap n l w hn h h1 h2
    · exact cut_full1 p cap n l w hn h h1 (by omega) hl
  · by_cases h2 : run l < 254
    · exact cut_mid p cap n l w hn h _ rfl (by omega) h2 hl
    · by_cases h3 : run l = 254
      · exact cut_full3 p cap n l w hn h h3 (by omega) hl
      · exact cut_full2 p cap n l w hn h _ rfl (by omega) (by omega) (by omega) hl
end Go.Proofs.YtooicigocljomaaDoor.Cobs
