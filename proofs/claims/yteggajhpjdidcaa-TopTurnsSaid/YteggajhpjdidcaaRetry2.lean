/- Package retry: meet, Window, check, stations. No statement is proved here. -/
import Derived.Test.YteggajhpjdidcaaRetry1
import Derived.Test.YteggajhpjdidcaaBlk
namespace Go.Proofs.Yteggajhpjdidcaa.Retry
open Go.ChangeShapes Go.WideShapes Go.ChangeAt Go.RowKit Go.Proofs.Yteggajhpjdidcaa.Kit Go.Proofs.Yteggajhpjdidcaa.App Go.Proofs.Yteggajhpjdidcaa.Cells Go.Proofs.Yteggajhpjdidcaa.Err Go.Proofs.Yteggajhpjdidcaa.RetryMath
set_option linter.unusedVariables false
set_option maxRecDepth 20000
set_option maxHeartbeats 1000000

theorem meet_any (g o m x z : Nat) (w : World) (hm : m ≤ 100000) (hx : x ≤ 1000) (c1 : w.cell? ⟨g, o + 1, none⟩ = some (.int .i64 (m : Int))) (c2 : w.cell? ⟨g, o + 2, none⟩ = some (.int .i64 (z : Int))) (f : ∀ j, w.frozen? ⟨g, j, none⟩ = false) :
    Calls Try.prog 20 #[.pointer (some ⟨g, o, none⟩), .int .i64 (x : Int)] w fun e w' => e = .returned (.tuple #[]) ∧ w' = (w.setCell ⟨g, o + 1, none⟩ (.int .i64 ((m + 1 : Nat) : Int))).setCell ⟨g, o + 2, none⟩ (.int .i64 ((x % room (m + 1) : Nat) : Int)) := by
  have WI := Lib.hid (fun W => window_any (m + 1) W (by omega))
  have hr := room_pos (m + 1)
  have hr2 := room_le (m + 1)
  rw [show ((m + 1 : Nat) : Int) = (m : Int) + 1 from rfl] at WI ⊢
  obtain ⟨r, hr0⟩ : ∃ r, room (m + 1) = r := ⟨_, rfl⟩
  rw [hr0] at WI hr hr2 ⊢
  clear hr0
  have f1 := f (o + 1)
  have f2 := f (o + 2)
  have r1 : (r : Int) ≠ 0 := by omega
  have r2 : r ≠ 0 := by omega
  obtain ⟨q, hq⟩ : ∃ q, x % r = q := ⟨_, rfl⟩
  have r3 : (x : Int) % (r : Int) = (q : Int) := by rw [← hq]; simp
  rw [hq]
  clear hq f hr
  go_enter Try.func20, Try.ntmps20
  go_wp2_with fail
  refine (WI.out _).mono ?_; rintro e w3 ⟨rfl, rfl⟩
  go_wp2_with fail
  go_end0
  exact ⟨rfl, rfl⟩
theorem window_good (m : Nat) (w : World) (h : m ≤ 200) : Calls Try.prog 13 #[.int .i64 (m : Int)] w fun e w' => e = .returned (.tuple #[.int .i64 ((room m : Nat) : Int), .nilIface]) ∧ Below w.heap.size w w' := by
  have WI := Lib.hid (fun W => window_any m W (by omega))
  have t0 : decide ((m : Int) < 0) = false := decide_eq_false (by omega)
  have t1 : decide ((m : Int) > 200) = false := decide_eq_false (by omega)
  have t1n : decide (200 < m) = false := decide_eq_false (by omega)
  generalize room m = r at WI ⊢
  go_enter Try.func13, Try.ntmps13
  go_wp2_with fail
  refine (WI.out _).mono ?_; rintro e w3 ⟨rfl, rfl⟩
  go_wp2_with fail
  go_ret2
  exact ⟨rfl, brefl _⟩
theorem window_bad (x : Int) (w : World) (h : ¬ (0 ≤ x ∧ x ≤ 200)) : Calls Try.prog 13 #[.int .i64 x] w fun e w' => e = .returned (.tuple #[.int .i64 0, er 1]) ∧ Below w.heap.size w w' := by
  rw [er_1]
  by_cases h0 : x < 0
  · have t0 : decide (x < 0) = true := decide_eq_true h0
    clear h h0
    go_enter Try.func13, Try.ntmps13
    go_wp2_with fail
    go_ret2
    exact ⟨rfl, brefl _⟩
  · have t0 : decide (x < 0) = false := decide_eq_false h0
    have t1 : decide (x > 200) = true := decide_eq_true (by omega)
    clear h h0
    go_enter Try.func13, Try.ntmps13
    go_wp2_with fail
    go_ret2
    exact ⟨rfl, brefl _⟩
theorem take_all {l : List Int} {k : Nat} (hk : k < l.length) (h : (l.take k).all fit = true) (hx : fit (l[k]?.getD 0) = true) : (l.take (k + 1)).all fit = true := by
  rw [List.take_add_one, List.getElem?_eq_getElem hk, List.all_append, h]
  rw [List.getElem?_eq_getElem hk] at hx
  simpa using hx
theorem not_all {l : List Int} {k : Nat} (hk : k < l.length) (hx : fit (l[k]?.getD 0) = false) : ¬ l.all fit = true := by
  intro h
  rw [List.getElem?_eq_getElem hk] at hx
  have := List.all_eq_true.1 h _ (List.getElem_mem hk)
  rw [show (some l[k]).getD 0 = l[k] from rfl, this] at hx
  cases hx
theorem check_any (x : Int) (p : Option Addr) (cap n : Nat) (l : List Int) (w : World) (hn : n = l.length) (hi : Ints w p cap l) (c : Int) (hc : code x l = c) :
    Calls Try.prog 16 #[.int .i64 x, .slice p n cap] w fun e w' => e = .returned (er c) ∧ Below w.heap.size w w' := by
  have hlen := hi.len_le
  rw [← hn] at hlen
  unfold code at hc
  rw [← hn] at hc
  by_cases h1 : x < 1
  · have t1 : decide (x < 1) = true := decide_eq_true h1
    rw [if_neg (by omega)] at hc
    subst hc
    rw [er_1]
    clear hn hi h1
    go_enter Try.func16, Try.ntmps16
    go_wp2_with fail
    go_ret
    exact ⟨rfl, brefl w⟩
  have t1 : decide (x < 1) = false := decide_eq_false h1
  by_cases h2 : x > 5
  · have t2 : decide (x > 5) = true := decide_eq_true h2
    rw [if_neg (by omega)] at hc
    subst hc
    rw [er_1]
    clear hn hi h1 h2
    go_enter Try.func16, Try.ntmps16
    go_wp2_with fail
    go_ret
    exact ⟨rfl, brefl w⟩
  have t2 : decide (x > 5) = false := decide_eq_false h2
  rw [if_pos (by omega)] at hc
  clear h1 h2
  by_cases h3 : 200 < n
  · have t3 : decide ((n : Int) > 200) = true := decide_eq_true (by omega)
    rw [if_pos h3] at hc
    subst hc
    rw [er_4]
    clear hn hi
    go_enter Try.func16, Try.ntmps16
    go_wp2_with fail
    go_ret
    exact ⟨rfl, brefl w⟩
  have t3 : decide ((n : Int) > 200) = false := decide_eq_false (by omega)
  rw [if_neg h3] at hc
  have HI := Lib.hid hi
  have HCO := Lib.hid hc
  have HN := Lib.hid hn
  clear hc hn hi
  go_enter Try.func16, Try.ntmps16
  go_wp2_with fail
  go_loopw [20] (fun iv wr => ∃ k : Nat, k ≤ n ∧ iv = .int .i64 k ∧ wr = w ∧ Hid ((l.take k).all fit = true)) (fun i _ => n - (intOf i).toNat)
  case atStart => exact ⟨0, Nat.zero_le _, rfl, rfl, Lib.hid rfl⟩
  case round =>
    obtain ⟨k, hk, rfl, rfl, HT⟩ := hrel
    by_cases hlt : k < n
    · have hkl : k < l.length := by rw [← HN.out]; exact hlt
      obtain ⟨b, off, rfl, _, hcell⟩ := HI.out.2.2.2 (by omega)
      have hck := hcell k hkl
      have HS := Lib.hid (fun h => take_all hkl HT.out h)
      have HX := Lib.hid (fun h => not_all hkl h)
      clear hkl hcell
      generalize l[k]?.getD 0 = x at hck HS HX
      have u1 : decide ((k : Int) < (n : Int)) = true := decide_eq_true (by omega)
      by_cases h3 : x < 0
      · have t3 : decide (x < 0) = true := decide_eq_true h3
        have HE := Lib.hid (show er c = er 1 by
          rw [← HCO.out, if_neg (HX.out (by unfold fit; rw [decide_eq_false (by omega : ¬ 0 ≤ x)]; rfl))])
        clear h3
        go_wp2_with fail
        go_ret
        exact ⟨by rw [HE.out]; rfl, brefl _⟩
      · have t3 : decide (x < 0) = false := decide_eq_false h3
        by_cases h4 : 1000 < x
        · have t4 : decide (x > 1000) = true := decide_eq_true h4
          have HE := Lib.hid (show er c = er 1 by
            rw [← HCO.out, if_neg (HX.out (by unfold fit; rw [decide_eq_false (by omega : ¬ x ≤ 1000), Bool.and_false]))])
          clear h3 h4
          go_wp2_with fail
          go_ret
          exact ⟨by rw [HE.out]; rfl, brefl _⟩
        · have t4 : decide (x > 1000) = false := decide_eq_false h4
          have HS2 := Lib.hid (HS.out (fit_iff.2 ⟨by omega, by omega⟩))
          clear h3 h4
          go_wp2_with fail
          go_roundw
          case rel => exact ⟨k + 1, by omega, by first | rfl | go_num, by first | trivial | rfl, HS2⟩
          case measure => simp [intOf]; omega
    · obtain rfl : k = n := by omega
      have u1 : decide ((k : Int) < (k : Int)) = false := decide_eq_false (by omega)
      have HE := Lib.hid (show er c = .nilIface by
        have h := HT.out
        rw [List.take_of_length_le (by rw [← HN.out]; exact Nat.le_refl _)] at h
        rw [← HCO.out, if_pos h]; rfl)
      go_wp2_with fail
      go_ret
      exact ⟨by rw [HE.out]; rfl, brefl _⟩
/-- Stations that have met nobody. -/
def fresh (k n : Nat) : List S := (List.range n).map fun i => if i < k then (i, 0, 0) else (0, 0, 0)
theorem fresh_zero (n : Nat) : fresh 0 n = List.replicate n (0, 0, 0) := by
  unfold fresh
  rw [List.map_congr_left (g := fun _ => (0, 0, 0)) (fun i _ => by rw [if_neg (by omega)])]
  rw [List.map_const']
  simp
theorem fresh_get {k n : Nat} (h : k < n) : (fresh k n)[k]? = some (0, 0, 0) := by
  unfold fresh
  rw [List.getElem?_map, List.getElem?_range h]
  simp
theorem fresh_len {k n : Nat} : (fresh k n).length = n := by simp [fresh]
theorem fresh_set {k n : Nat} (h : k < n) : (fresh k n).set k (k, 0, 0) = fresh (k + 1) n := by
  refine List.ext_getElem? fun j => ?_
  rw [List.getElem?_set, fresh_len]
  unfold fresh
  rw [List.getElem?_map, List.getElem?_map]
  by_cases hj : k = j
  · subst hj
    rw [if_pos rfl, if_pos h, List.getElem?_range h]
    simp
  · rw [if_neg hj]
    rcases Nat.lt_or_ge j n with h1 | h1
    · rw [List.getElem?_range h1]
      simp only [Option.map_some]
      by_cases h2 : j < k
      · rw [if_pos h2, if_pos (by omega)]
      · rw [if_neg h2, if_neg (by omega)]
    · rw [List.getElem?_eq_none (by simpa using h1)]
      rfl
theorem fresh_all (n : Nat) : fresh n n = st n (fun _ => 0) (fun _ => 0) 0 := by
  unfold st fresh
  rw [up_zero (fun _ => rfl)]
  refine List.map_congr_left fun i hi => ?_
  rw [if_pos (List.mem_range.1 hi)]
  rfl
theorem made_st (w : World) (n : Nat) (h1 : 1 ≤ n) (hn : n ≤ 5) : ∃ w', (Instr.makeSlice 41 (.int .i64 (n : Int)) (.int .i64 (n : Int))).run Try.prog w = .ok (.slice (some ⟨w.heap.size, 0, none⟩) n n) w' ∧ OS w' w.heap.size (.slice (some ⟨w.heap.size, 0, none⟩) n n) (fresh 0 n) ∧ w.grownBy w' none := by
  obtain ⟨i, z, hi, hz, hs, hby, hzc⟩ := tyS.info
  have hz2 : z = .agg #[.int .i64 0, .int .i64 0, .int .i64 0] := by
    have h : (Try.prog.info? 45).map (fun i => i.zero) = some (some (.agg #[.int .i64 0, .int .i64 0, .int .i64 0])) := by kernel_rfl
    rw [hi, Option.map_some, hz] at h
    injection h with h
    injection h
  subst hz2
  obtain ⟨w', h1, h2, h3⟩ := run_makeSlice_full (P := Try.prog) (w := w) w.heap.size 41 45 i _ 3 tyS.sl hi hz hs .i64 .i64 n (by omega) (by rw [hby]; omega) (by unfold maxLen; omega) (Nat.le_refl _)
  refine ⟨w', h1, ?_, h3⟩
  have e2 : (madeCells (Value.cells (.agg #[.int .i64 0, .int .i64 0, .int .i64 0])) (n * 3)).toList = lay.all (fresh 0 n) := by
    rw [fresh_zero]
    obtain rfl | rfl | rfl | rfl | rfl : n = 1 ∨ n = 2 ∨ n = 3 ∨ n = 4 ∨ n = 5 := by omega
    all_goals kernel_rfl
  rw [e2] at h2
  unfold OS OC
  rw [fresh_len]
  exact h2
theorem stations_any (n : Nat) (w : World) (h1 : 1 ≤ n) (hn : n ≤ 5) :
    Calls Try.prog 17 #[.int .i64 (n : Int)] w fun e w' => e = .returned (.slice (some ⟨w.heap.size, 0, none⟩) n n) ∧ OS w' w.heap.size (.slice (some ⟨w.heap.size, 0, none⟩) n n) (st n (fun _ => 0) (fun _ => 0) 0) ∧ Below w.heap.size w w' := by
  obtain ⟨w1, hmk, ho, hg⟩ := made_st w n h1 hn
  have HO := Lib.hid ho
  have HB := Lib.hid (show Below w.heap.size w w1 from ⟨hg.os, hg.tape, hg.output, hg.size, fun k hk => hg.block k hk (by simp)⟩)
  have hs : w.heap.size < w1.heap.size := (os_caps ho).2.2.2.2
  clear ho hg
  obtain ⟨g, hgs⟩ : ∃ g, w.heap.size = g := ⟨_, rfl⟩
  rw [hgs] at hmk HO hs ⊢
  have HGS := Lib.hid hgs
  clear hgs
  go_enter Try.func17, Try.ntmps17
  go_wp2_with fail
  go_loopw [9] (fun iv wr => ∃ k : Nat, k ≤ n ∧ iv = .int .i64 (k : Int) ∧ Hid (OS wr g (.slice (some ⟨g, 0, none⟩) n n) (fresh k n)) ∧ Hid (Below g w wr)) (fun i _ => n - (intOf i).toNat)
  case atStart => exact ⟨0, Nat.zero_le _, rfl, HO, Lib.hid (by rw [← HGS.out]; exact HB.out)⟩
  case round =>
    obtain ⟨k, hk, rfl, HR, HW⟩ := hrel
    by_cases hlt : k < n
    · have u1 : decide ((k : Int) < (n : Int)) = true := decide_eq_true (by omega)
      have u2 : (k : Int) < (n : Int) := by omega
      obtain ⟨c1, _, _, hf⟩ := os_at HR.out fresh_len.symm k _ (fresh_get hlt)
      have f1 := hf (k * 3)
      have HR2 := Lib.hid (show OS (wr.setCell ⟨g, k * 3, none⟩ (.int .i64 (k : Int))) g (.slice (some ⟨g, 0, none⟩) n n) (fresh (k + 1) n) from by
        rw [← fresh_set hlt]
        exact os_set 0 _ (by decide) HR.out fresh_len.symm k _ (k, 0, 0) (fresh_get hlt) rfl)
      have HW2 := Lib.hid (below_set HW.out g (k * 3) (.int .i64 (k : Int)) (Nat.le_refl _))
      clear hf
      go_wp2_with fail
      go_roundw
      case rel => exact ⟨k + 1, by omega, by first | rfl | go_num, HR2, HW2⟩
      case measure => simp [intOf]; omega
    · obtain rfl : k = n := by omega
      have u1 : decide ((k : Int) < (k : Int)) = false := decide_eq_false (by omega)
      go_wp2_with fail
      go_ret
      exact ⟨rfl, by rw [← fresh_all]; exact HR.out, HW.out⟩
end Go.Proofs.Yteggajhpjdidcaa.Retry
