/- The laws' helpers: in, count, Things, All, drrFact. No statement is proved here. -/
import Derived.Test.YtcdiejalplgclaaDrr4
import Derived.Test.YtcdiejalplgclaaSame
namespace Go.Proofs.Ytcdiejalplgclaa.Drr
open Go.ChangeShapes Go.WideShapes Go.ChangeAt Go.RowKit Go.Proofs.Ytcdiejalplgclaa.Kit Go.Proofs.Ytcdiejalplgclaa.App Go.Proofs.Ytcdiejalplgclaa.Err Go.Proofs.Ytcdiejalplgclaa.Cells Go.Proofs.Ytcdiejalplgclaa.Queue
set_option linter.unusedVariables false
set_option maxRecDepth 20000
set_option maxHeartbeats 1000000

theorem in_any (n a b : Int) (w : World) (R : Bool) (hR : R = (decide (a ≤ n) && decide (n ≤ b))) : Calls Try.prog 10 #[.int .i64 n, .int .i64 a, .int .i64 b] w fun e w' => e = .returned (.bool R) ∧ w' = w := by
  subst hR
  by_cases h1 : a ≤ n
  · have t1 : decide (a ≤ n) = true := decide_eq_true h1
    go_enter Try.func10, Try.ntmps10
    go_wp2_with fail
    go_ret
    exact ⟨by rw [t1]; simp, rfl⟩
  · have t1 : decide (a ≤ n) = false := decide_eq_false h1
    go_enter Try.func10, Try.ntmps10
    go_wp2_with fail
    go_ret
    exact ⟨rfl, rfl⟩
theorem cell_ints {w : World} {b off cap : Nat} {l : List Int} (hi : Ints w (some ⟨b, off, none⟩) cap l) (j : Nat) (hj : j < l.length) : w.cell? ⟨b, off + j, none⟩ = some (.int .i64 (l[j]?.getD 0)) := by
  obtain ⟨b', off', e, _, hc⟩ := hi.2.2.2 (by omega)
  injection e with e
  injection e with e1 e2
  subst e1 e2
  exact hc j hj
theorem some_ints {w : World} {p : Option Addr} {cap : Nat} {l : List Int} (hi : Ints w p cap l) (h0 : 0 < l.length) : ∃ b off, p = some ⟨b, off, none⟩ := by
  obtain ⟨b, off, e, _, _⟩ := hi.2.2.2 h0
  exact ⟨b, off, e⟩
theorem take_step {l : List Int} {k : Nat} (h : k < l.length) : l.take (k + 1) = l.take k ++ [l[k]?.getD 0] := by
  rw [List.take_add_one, List.getElem?_eq_getElem h]; rfl
theorem count_any (p : Option Addr) (cap n : Nat) (l : List Int) (x : Int) (w : World) (hn : n = l.length) (hi : Ints w p cap l) (c : Nat) (hc : l.count x = c) :
    Calls Try.prog 8 #[.slice p n cap, .int .i64 x] w fun e w' => e = .returned (.int .i64 (c : Int)) ∧ w' = w := by
  have hlen := hi.len_le
  have HI := Lib.hid hi
  have HN := Lib.hid hn
  have HC := Lib.hid hc
  rw [← hn] at hlen
  clear hn hi hc
  go_enter Try.func8, Try.ntmps8
  go_wp2_with fail
  go_loopw [5, 6] (fun mv iv wr => ∃ k m : Nat, k ≤ n ∧ m ≤ k ∧ iv = .int .i64 k ∧ mv = .int .i64 m ∧ wr = w ∧ Hid (m = (l.take k).count x)) (fun _ i _ => n - (intOf i).toNat)
  case atStart => exact ⟨0, 0, Nat.zero_le _, Nat.le_refl _, rfl, rfl, rfl, Lib.hid (by simp)⟩
  case round =>
    obtain ⟨k, m, hk, hm, rfl, rfl, rfl, H⟩ := hrel
    by_cases hlt : k < n
    · have u1 : decide ((k : Int) < (n : Int)) = true := decide_eq_true (by omega)
      have hkl : k < l.length := by rw [← HN.out]; exact hlt
      obtain ⟨b, off, rfl⟩ := some_ints HI.out (by omega)
      have hck := cell_ints HI.out k hkl
      have HT := Lib.hid (take_step hkl)
      obtain ⟨y, hy⟩ : ∃ y, l[k]?.getD 0 = y := ⟨_, rfl⟩
      rw [hy] at hck HT
      clear hkl hy
      by_cases e : y = x
      · have u2 : (y == x) = true := by rw [e]; simp
        have H2 := Lib.hid (show m + 1 = (l.take (k + 1)).count x by rw [HT.out, List.count_append, ← H.out, e]; simp)
        clear e
        go_wp2_with fail
        go_roundw
        case rel => exact ⟨k + 1, m + 1, by omega, by omega, by first | rfl | go_num, by first | rfl | go_num, by first | trivial | rfl, H2⟩
        case measure => simp [intOf]; omega
      · have u2 : (y == x) = false := by rw [beq_eq_false_iff_ne]; exact e
        have H2 := Lib.hid (show m = (l.take (k + 1)).count x by rw [HT.out, List.count_append, ← H.out, List.count_cons, u2]; simp)
        clear e
        go_wp2_with fail
        go_roundw
        case rel => exact ⟨k + 1, m, by omega, by omega, by first | rfl | go_num, rfl, by first | trivial | rfl, H2⟩
        case measure => simp [intOf]; omega
    · obtain rfl : k = n := by omega
      have u1 : decide ((k : Int) < (k : Int)) = false := decide_eq_false (by omega)
      have HE := Lib.hid (show m = c by rw [H.out, HN.out, List.take_length, HC.out])
      go_wp2_with fail
      go_ret
      exact ⟨by rw [HE.out]; rfl, rfl⟩

theorem things_take {ls : List (List Int)} {k : Nat} (h : k < ls.length) : things (ls.take (k + 1)) = things (ls.take k) + (row ls k).length := by
  unfold things row
  rw [List.take_add_one, List.getElem?_eq_getElem h, List.map_append, List.sum_append]
  simp only [Option.toList, List.map_cons, List.map_nil, List.sum_cons, List.sum_nil, Option.getD, Nat.add_zero]
theorem things_any (p : Option Addr) (cap n : Nat) (ls : List (List Int)) (w : World) (hn : n = ls.length) (hi : RowsI w p cap ls) (hg : Good ls) (c : Nat) (hc : things ls = c) :
    Calls Try.prog 9 #[.slice p n cap] w fun e w' => e = .returned (.int .i64 (c : Int)) ∧ w' = w := by
  have HI := Lib.hid (rows_at hi)
  have HG := Lib.hid hg
  have HN := Lib.hid hn
  have HC := Lib.hid hc
  have hn5 : n ≤ 5 := by rw [hn]; exact hg.1
  clear hn hi hc hg
  go_enter Try.func9, Try.ntmps9
  go_wp2_with fail
  go_loopw [3, 4] (fun mv iv wr => ∃ k m : Nat, k ≤ n ∧ m ≤ 8 * k ∧ iv = .int .i64 k ∧ mv = .int .i64 m ∧ wr = w ∧ Hid (m = things (ls.take k))) (fun _ i _ => n - (intOf i).toNat)
  case atStart => exact ⟨0, 0, Nat.zero_le _, Nat.le_refl _, rfl, rfl, rfl, Lib.hid (by simp [things])⟩
  case round =>
    obtain ⟨k, m, hk, hm, rfl, rfl, rfl, H⟩ := hrel
    by_cases hlt : k < n
    · have u1 : decide ((k : Int) < (n : Int)) = true := decide_eq_true (by omega)
      have hkl : k < ls.length := by rw [← HN.out]; exact hlt
      obtain ⟨b, off, rfl, hcc⟩ := HI.out (by omega)
      obtain ⟨q, c1, hck, _⟩ := hcc wr (brefl _) k hkl
      have HT := Lib.hid (things_take hkl)
      have h8 := (HG.out.row k).1
      obtain ⟨y, hy⟩ : ∃ y, (row ls k).length = y := ⟨_, rfl⟩
      rw [hy] at hck HT h8
      have H2 := Lib.hid (show m + y = things (ls.take (k + 1)) by rw [HT.out, H.out])
      clear hkl hy hcc
      go_wp2_with fail
      go_roundw
      case rel => exact ⟨k + 1, m + y, by omega, by omega, by first | rfl | go_num, by first | rfl | go_num, by first | trivial | rfl, H2⟩
      case measure => simp [intOf]; omega
    · obtain rfl : k = n := by omega
      have u1 : decide ((k : Int) < (k : Int)) = false := decide_eq_false (by omega)
      have HE := Lib.hid (show m = c by rw [H.out, HN.out, List.take_length, HC.out])
      go_wp2_with fail
      go_ret
      exact ⟨by rw [HE.out]; rfl, rfl⟩
theorem tot_take_step {l : List Int} {k : Nat} (h : k < l.length) : tot (l.take (k + 1)) = tot (l.take k) + l[k]?.getD 0 := by
  rw [take_step h, tot_append]; simp [tot]
theorem all_tot (p : Option Addr) (cap n : Nat) (l : List Int) (w : World) (hn : n = l.length) (hi : Ints w p cap l) (hg : fine l) (c : Int) (hc : tot l = c) :
    Calls Try.prog 11 #[.slice p n cap] w fun e w' => e = .returned (.int .i64 c) ∧ w' = w := by
  have HI := Lib.hid hi
  have HG := Lib.hid hg
  have HN := Lib.hid hn
  have HC := Lib.hid hc
  have hn8 : n ≤ 8 := by rw [hn]; exact hg.1
  clear hn hi hc hg
  go_enter Try.func11, Try.ntmps11
  go_wp2_with fail
  go_loopw [3, 4] (fun mv iv wr => ∃ (k : Nat) (m : Int), k ≤ n ∧ 0 ≤ m ∧ m ≤ 20 * k ∧ iv = .int .i64 k ∧ mv = .int .i64 m ∧ wr = w ∧ Hid (m = tot (l.take k))) (fun _ i _ => n - (intOf i).toNat)
  case atStart => exact ⟨0, 0, Nat.zero_le _, by omega, by omega, rfl, rfl, rfl, Lib.hid (by simp [tot])⟩
  case round =>
    obtain ⟨k, m, hk, hm0, hm, rfl, rfl, rfl, H⟩ := hrel
    by_cases hlt : k < n
    · have u1 : decide ((k : Int) < (n : Int)) = true := decide_eq_true (by omega)
      have hkl : k < l.length := by rw [← HN.out]; exact hlt
      obtain ⟨b, off, rfl⟩ := some_ints HI.out (by omega)
      have hck := cell_ints HI.out k hkl
      have HT := Lib.hid (tot_take_step hkl)
      have h20 := HG.out.2 (l[k]?.getD 0) (by rw [List.getElem?_eq_getElem hkl]; exact List.getElem_mem hkl)
      obtain ⟨y, hy⟩ : ∃ y, l[k]?.getD 0 = y := ⟨_, rfl⟩
      rw [hy] at hck HT h20
      obtain ⟨y1, y2⟩ := h20
      have H2 := Lib.hid (show m + y = tot (l.take (k + 1)) by rw [HT.out, H.out])
      clear hkl hy
      go_wp2_with fail
      go_roundw
      case rel => exact ⟨k + 1, m + y, by omega, by omega, by omega, by first | rfl | go_num, by first | rfl | go_num, by first | trivial | rfl, H2⟩
      case measure => simp [intOf]; omega
    · obtain rfl : k = n := by omega
      have u1 : decide ((k : Int) < (k : Int)) = false := decide_eq_false (by omega)
      have HE := Lib.hid (show m = c by rw [H.out, HN.out, List.take_length, HC.out])
      go_wp2_with fail
      go_ret
      exact ⟨by rw [HE.out]; rfl, rfl⟩

theorem fact_runs : Runs 3 4 (start [[3, 3], [1, 1, 1, 1]]) [0, 1, 1, 1, 0, 1] := by
  have h : Runs 3 4 [⟨0, [3, 3], 0⟩, ⟨1, [1, 1, 1, 1], 0⟩] (said 3 ⟨0, [3, 3], 0⟩ ++ (said 3 ⟨1, [1, 1, 1, 1], 0⟩ ++ (said 3 ⟨0, [3], 0⟩ ++ (said 3 ⟨1, [1], 0⟩ ++ [])))) :=
    .more (by decide) (.more (by decide) (.fin (by decide) (.fin (by decide) .done)))
  exact h
theorem fact_rows (w : World) : RowsI (((w.alloc (.cells #[.int .i64 3, .int .i64 3] 3)).alloc (.cells #[.int .i64 1, .int .i64 1, .int .i64 1, .int .i64 1] 3)).alloc (.cells #[.slice (some ⟨w.heap.size, 0, none⟩) 2 2, .slice (some ⟨w.heap.size + 1, 0, none⟩) 4 4] 24)) (some ⟨w.heap.size + 2, 0, none⟩) 2 [[3, 3], [1, 1, 1, 1]] := by
  have h1 := lit_ints w [3, 3] (by decide) (by decide)
  have h2 : Ints ((w.alloc (.cells #[.int .i64 3, .int .i64 3] 3)).alloc (.cells #[.int .i64 1, .int .i64 1, .int .i64 1, .int .i64 1] 3)) (some ⟨w.heap.size + 1, 0, none⟩) 4 [1, 1, 1, 1] := by
    have := lit_ints (w.alloc (.cells #[.int .i64 3, .int .i64 3] 3)) [1, 1, 1, 1] (by decide) (by decide)
    simpa using this
  refine ⟨by simp, by simp [maxLen], fun _ => ⟨w.heap.size + 2, 0, rfl, by simp, fun j hj => ?_⟩⟩
  rcases j with _|_|j
  · exact ⟨_, _, by go_simp, (h1.below (balloc (brefl _) _)).below (balloc (brefl _) _)⟩
  · exact ⟨_, _, by go_simp, h2.below (balloc (brefl _) _)⟩
  · have : j + 1 + 1 < 2 := hj
    omega
theorem fact_any (w : World) : Calls Try.prog 6 #[] w fun e w' => e = .returned (.bool true) ∧ Below w.heap.size w w' := by
  have RU := Lib.hid (fun W => run_any _ 2 2 [[3, 3], [1, 1, 1, 1]] 3 _ rfl (fact_rows W) 0 (by decide) [0, 1, 1, 1, 0, 1] (fun _ => ⟨4, fact_runs⟩) (fun h => absurd rfl h) 6 rfl)
  rw [er_0] at RU
  go_enter Try.func6, Try.ntmps6
  go_wp2_with fail
  refine (RU.out w).mono ?_; rintro e w1 ⟨⟨r, cr, rfl, hI⟩, hb⟩
  have HB1 := Lib.hid (bcall (balloc (balloc (balloc (brefl w) _) _) _) hb)
  have SM := Lib.hid (ints_any r (some ⟨w1.heap.size, 0, none⟩) cr 6 6 6 [0, 1, 1, 1, 0, 1] [0, 1, 1, 1, 0, 1] (w1.alloc (.cells #[.int .i64 0, .int .i64 1, .int .i64 1, .int .i64 1, .int .i64 0, .int .i64 1] 3)) rfl rfl (hI.below (balloc (brefl _) _)) (lit_ints w1 [0, 1, 1, 1, 0, 1] (by decide) (by decide)) true (by decide))
  clear RU hb hI
  go_wp2_with fail
  refine SM.out.mono ?_; rintro e w2 ⟨rfl, hb2⟩
  have HB2 := Lib.hid (bcall (balloc HB1.out _) hb2)
  go_wp2_with fail
  go_ret
  exact ⟨by first | rfl | simp, HB2.out⟩
end Go.Proofs.Ytcdiejalplgclaa.Drr
