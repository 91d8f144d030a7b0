/- Package maxmin: checkWay and Check. No statement is proved here. -/
import Derived.Test.YtggnpecmldnmnaaDoorMaxCode
import Derived.Test.YtggnpecmldnmnaaDoorRowsAt
import Derived.Test.YtggnpecmldnmnaaDoorArr
import Derived.Test.YtggnpecmldnmnaaDoorSub
import Derived.RegionTactic
namespace Go.Proofs.YtggnpecmldnmnaaDoor.Maxmin
open Go.ChangeShapes Go.WideShapes Go.ChangeAt Go.RowKit Go.Proofs.YtggnpecmldnmnaaDoor.Kit Go.Proofs.YtggnpecmldnmnaaDoor.App Go.Proofs.YtggnpecmldnmnaaDoor.Err Go.Proofs.YtggnpecmldnmnaaDoor.Drr
set_option linter.unusedVariables false
set_option maxRecDepth 20000
set_option maxHeartbeats 1000000

theorem er_ne {c : Int} (h : c ≠ 0) : er c = .iface 36 (.int .i64 c) := by unfold er; rw [if_neg h]
theorem seen_new (w : World) : Blk 50 (w.alloc (.cells #[.bool false, .bool false, .bool false, .bool false, .bool false, .bool false] 50)) w.heap.size (ar 6 fun _ => .bool false) := Blk.new w 50 (ar 6 fun _ => .bool false)
theorem way_any (p : Option Addr) (cap n : Nat) (l : List Int) (L : Nat) (w : World) (hn : n = l.length) (hi : Ints w p cap l) (hL : L ≤ 6) (c : Int) (hc : badW L l = c) :
    Calls Tryd.prog 13 #[.slice p n cap, .int .i64 (L : Int)] w fun e w' => e = .returned (er c) ∧ Below w.heap.size w w' := by
  have hlen := hi.len_le
  rw [← hn] at hlen
  unfold badW at hc
  rw [← hn] at hc
  by_cases h0 : n = 0
  · have t0 : ((n : Int) == 0) = true := by rw [beq_iff_eq]; omega
    rw [if_pos h0] at hc
    subst hc
    rw [er_5]
    clear hn hi h0
    go_enter Tryd.func13, Tryd.ntmps13
    go_wp2_with fail
    go_ret
    exact ⟨rfl, brefl w⟩
  have t0 : ((n : Int) == 0) = false := by rw [beq_eq_false_iff_ne]; omega
  rw [if_neg h0] at hc
  have HC := Lib.hid hc
  have HI := Lib.hid hi
  have HN := Lib.hid hn
  clear hc hi hn h0
  go_enter Tryd.func13, Tryd.ntmps13
  go_wp2_with fail
  go_loopw [16] (fun iv wr => ∃ k : Nat, k ≤ n ∧ iv = .int .i64 k ∧ wr = w ∧ Hid (∀ j : Nat, j < k → 0 ≤ l[j]?.getD 0 ∧ l[j]?.getD 0 ≤ (L : Int) - 1)) (fun i _ => n - (intOf i).toNat)
  case atStart => exact ⟨0, Nat.zero_le _, rfl, rfl, Lib.hid fun j hj => absurd hj (Nat.not_lt_zero _)⟩
  case round =>
    obtain ⟨k, hk, rfl, rfl, H⟩ := hrel
    by_cases hlt : k < n
    · have u1 : decide ((k : Int) < (n : Int)) = true := decide_eq_true (by omega)
      have hkl : k < l.length := by rw [← HN.out]; exact hlt
      obtain ⟨b, off, rfl, _, hcc⟩ := HI.out.2.2.2 (by omega)
      have hck := hcc k hkl
      have HK := Lib.hid hkl
      clear hcc hkl
      obtain ⟨x, hx⟩ : ∃ x, l[k]?.getD 0 = x := ⟨_, rfl⟩
      rw [hx] at hck
      have HX := Lib.hid hx
      clear hx
      by_cases h1 : 0 ≤ x
      · have t1 : decide (x < 0) = false := decide_eq_false (by omega)
        by_cases h2 : x ≤ (L : Int) - 1
        · have t2 : decide (x ≥ (L : Int)) = false := decide_eq_false (by omega)
          have H2 := Lib.hid (And.intro h1 h2)
          clear h1 h2
          go_wp2_with fail
          go_roundw
          case rel => exact ⟨k + 1, by omega, by first | rfl | go_num, by first | trivial | rfl, Lib.hid fun j hj => by
            by_cases e : j = k
            · rw [e, HX.out]; exact H2.out
            · exact H.out j (by omega)⟩
          case measure => simp [intOf]; omega
        · have t2 : decide (x ≥ (L : Int)) = true := decide_eq_true (by omega)
          have HE := Lib.hid (show c = 1 by rw [← HC.out, if_neg (by rw [inn_false HK.out (by rw [HX.out]; exact fun h => h2 h.2)]; decide)])
          clear h1 h2
          go_wp2_with fail
          go_ret
          exact ⟨by rw [HE.out]; rfl, brefl _⟩
      · have t1 : decide (x < 0) = true := decide_eq_true (by omega)
        have HE := Lib.hid (show c = 1 by rw [← HC.out, if_neg (by rw [inn_false HK.out (by rw [HX.out]; exact fun h => h1 h.1)]; decide)])
        clear h1
        go_wp2_with fail
        go_ret
        exact ⟨by rw [HE.out]; rfl, brefl _⟩
    · obtain rfl : k = n := by omega
      have u1 : decide ((k : Int) < (k : Int)) = false := decide_eq_false (by omega)
      obtain ⟨w0, rfl⟩ : ∃ z, z = wr := ⟨wr, rfl⟩
      have HIN := Lib.hid (fun j (hj : j < l.length) => H.out j (by rw [HN.out]; exact hj))
      have hc2 := HC.out
      rw [if_pos (inn_of HIN.out)] at hc2
      have HC2 := Lib.hid hc2
      have HB := Lib.hid (seen_new w0)
      clear HC H hc2
      go_wp2_with fail
      go_loopw [31] (fun iv wq => ∃ j : Nat, j ≤ k ∧ iv = .int .i64 j ∧ Hid (Below w0.heap.size w0 wq) ∧ Hid (∃ s : Nat → Bool, Blk 50 wq w0.heap.size (ar 6 fun y => .bool (s y)) ∧ (∀ y : Nat, s y = true ↔ (y : Int) ∈ l.take j) ∧ (l.take j).Nodup)) (fun i _ => k - (intOf i).toNat)
      case atStart => exact ⟨0, Nat.zero_le _, rfl, Lib.hid (balloc (brefl _) _), Lib.hid ⟨fun _ => false, HB.out, by simp, by simp⟩⟩
      case round =>
        obtain ⟨j, hj, rfl, HBW, HS⟩ := hrel
        by_cases hjk : j < k
        · have v1 : decide ((j : Int) < (k : Int)) = true := decide_eq_true (by omega)
          have hjl : j < l.length := by rw [← HN.out]; exact hjk
          have hin := HIN.out j hjl
          obtain ⟨x, hx⟩ : ∃ x : Nat, l[j]?.getD 0 = (x : Int) := ⟨(l[j]?.getD 0).toNat, by omega⟩
          have hiw := HI.out.below HBW.out
          obtain ⟨b, off, rfl, _, hcc⟩ := hiw.2.2.2 (by omega)
          have hck := hcc j hjl
          rw [hx] at hck hin
          obtain ⟨s, hb, hs, hd⟩ := HS.out
          have hx6 : x < 6 := by omega
          have hx6' : (x : Int) < 6 := by omega
          have hcs := hb.cell x _ (ar_get _ hx6)
          have hfs := hb.fz x
          cases hsx : s x with
          | true =>
            rw [hsx] at hcs
            have HE := Lib.hid (show c = 6 by rw [← HC2.out, if_neg (nodup_not hjl (by rw [hx]; exact (hs x).1 hsx))])
            clear hcc hiw hjl hin hx hb hs hd hx6 hsx
            go_wp2_with fail
            go_ret
            exact ⟨by rw [HE.out]; rfl, HBW.out⟩
          | false =>
            rw [hsx] at hcs
            have HS2 := Lib.hid (show ∃ s : Nat → Bool, Blk 50 (wr.setCell ⟨w0.heap.size, x, none⟩ (.bool true)) w0.heap.size (ar 6 fun y => .bool (s y)) ∧ (∀ y : Nat, s y = true ↔ (y : Int) ∈ l.take (j + 1)) ∧ (l.take (j + 1)).Nodup from
              ⟨fun y => if y = x then true else s y, by
                have := hb.set x (.bool true)
                rw [ar_set] at this
                rw [show (ar 6 fun y => Value.bool (if y = x then true else s y)) = ar 6 fun y => if y = x then Value.bool true else .bool (s y) from ar_congr fun y _ => by split <;> rfl]
                exact this, fun y => by
                rw [List.take_add_one, List.getElem?_eq_getElem hjl]
                rw [List.getElem?_eq_getElem hjl] at hx
                have hx' : l[j] = (x : Int) := hx
                simp only [Option.toList_some, List.mem_append, List.mem_singleton, hx']
                by_cases e : y = x
                · subst e; simp
                · rw [if_neg e, hs y]
                  constructor
                  · exact .inl
                  · rintro (h | h)
                    · exact h
                    · omega, nodup_step hd hjl (by rw [hx]; exact fun h => by rw [(hs x).2 h] at hsx; cases hsx)⟩)
            have HB2 := Lib.hid (show Below w0.heap.size w0 (wr.setCell ⟨w0.heap.size, x, none⟩ (.bool true)) from below_set HBW.out w0.heap.size x (.bool true) (Nat.le_refl _))
            clear hcc hiw hjl hin hx hb hs hd hx6 hsx
            go_wp2_with fail
            go_roundw
            case rel => exact ⟨j + 1, by omega, by first | rfl | go_num, HB2, HS2⟩
            case measure => simp [intOf]; omega
        · obtain rfl : j = k := by omega
          have v1 : decide ((j : Int) < (j : Int)) = false := decide_eq_false (by omega)
          have HE := Lib.hid (show c = 0 by
            obtain ⟨s, hb, hs, hd⟩ := HS.out
            rw [List.take_of_length_le (by rw [HN.out]; exact Nat.le_refl _)] at hd
            rw [← HC2.out, if_pos hd])
          go_wp2_with fail
          go_ret
          exact ⟨by rw [HE.out]; rfl, HBW.out⟩

theorem check_any (p1 : Option Addr) (cap1 n1 : Nat) (room : List Int) (p : Option Addr) (cap n : Nat) (ws : List (List Int)) (w : World) (hn1 : n1 = room.length) (hi1 : Ints w p1 cap1 room) (hn : n = ws.length) (hi : RowsI w p cap ws) (c : Int) (hc : code room ws = c) :
    Calls Tryd.prog 6 #[.slice p1 n1 cap1, .slice p n cap] w fun e w' => e = .returned (er c) ∧ Below w.heap.size w w' := by
  have hlen1 := hi1.len_le
  have hlen := hi.len_le
  rw [← hn1] at hlen1
  rw [← hn] at hlen
  unfold code at hc
  rw [← hn1, ← hn] at hc
  by_cases h6 : 6 < n1
  · have t1 : decide ((n1 : Int) > 6) = true := decide_eq_true (by omega)
    rw [if_pos (.inl h6)] at hc
    subst hc
    rw [er_4]
    clear hn1 hn hi1 hi h6
    go_enter Tryd.func6, Tryd.ntmps6
    go_wp2_with fail
    go_ret
    exact ⟨rfl, brefl w⟩
  have t1 : decide ((n1 : Int) > 6) = false := decide_eq_false (by omega)
  by_cases h5 : 5 < n
  · have t2 : decide ((n : Int) > 5) = true := decide_eq_true (by omega)
    rw [if_pos (.inr h5)] at hc
    subst hc
    rw [er_4]
    clear hn1 hn hi1 hi h6 h5
    go_enter Tryd.func6, Tryd.ntmps6
    go_wp2_with fail
    go_ret
    exact ⟨rfl, brefl w⟩
  have t2 : decide ((n : Int) > 5) = false := decide_eq_false (by omega)
  rw [if_neg (by omega)] at hc
  have HC := Lib.hid hc
  have HI1 := Lib.hid hi1
  have HN1 := Lib.hid hn1
  have HI := Lib.hid hi
  have HN := Lib.hid hn
  have WA := Lib.hid way_any
  have h6' : n1 ≤ 6 := by omega
  clear hc hi1 hn1 hi hn h6 h5
  go_enter Tryd.func6, Tryd.ntmps6
  go_wp2_with fail
  go_loopw [21] (fun iv wr => ∃ k : Nat, k ≤ n1 ∧ iv = .int .i64 k ∧ wr = w ∧ Hid (∀ j : Nat, j < k → 0 ≤ room[j]?.getD 0 ∧ room[j]?.getD 0 ≤ 1000)) (fun i _ => n1 - (intOf i).toNat)
  case atStart => exact ⟨0, Nat.zero_le _, rfl, rfl, Lib.hid fun j hj => absurd hj (Nat.not_lt_zero _)⟩
  case round =>
    obtain ⟨k, hk, rfl, rfl, H⟩ := hrel
    by_cases hlt : k < n1
    · have u1 : decide ((k : Int) < (n1 : Int)) = true := decide_eq_true (by omega)
      have hkl : k < room.length := by rw [← HN1.out]; exact hlt
      obtain ⟨b, off, rfl, _, hcc⟩ := HI1.out.2.2.2 (by omega)
      have hck := hcc k hkl
      have HK := Lib.hid hkl
      clear hcc hkl
      obtain ⟨x, hx⟩ : ∃ x, room[k]?.getD 0 = x := ⟨_, rfl⟩
      rw [hx] at hck
      have HX := Lib.hid hx
      clear hx
      by_cases h1 : 0 ≤ x
      · have t3 : decide (x < 0) = false := decide_eq_false (by omega)
        by_cases h2 : x ≤ 1000
        · have t4 : decide (x > 1000) = false := decide_eq_false (by omega)
          have H2 := Lib.hid (And.intro h1 h2)
          clear h1 h2
          go_wp2_with fail
          go_roundw
          case rel => exact ⟨k + 1, by omega, by first | rfl | go_num, by first | trivial | rfl, Lib.hid fun j hj => by
            by_cases e : j = k
            · rw [e, HX.out]; exact H2.out
            · exact H.out j (by omega)⟩
          case measure => simp [intOf]; omega
        · have t4 : decide (x > 1000) = true := decide_eq_true (by omega)
          have HE := Lib.hid (show c = 1 by rw [← HC.out, if_neg (by rw [inn_false HK.out (by rw [HX.out]; exact fun h => h2 h.2)]; decide)])
          clear h1 h2
          go_wp2_with fail
          go_ret
          exact ⟨by rw [HE.out]; rfl, brefl _⟩
      · have t3 : decide (x < 0) = true := decide_eq_true (by omega)
        have HE := Lib.hid (show c = 1 by rw [← HC.out, if_neg (by rw [inn_false HK.out (by rw [HX.out]; exact fun h => h1 h.1)]; decide)])
        clear h1
        go_wp2_with fail
        go_ret
        exact ⟨by rw [HE.out]; rfl, brefl _⟩
    · obtain rfl : k = n1 := by omega
      have u1 : decide ((k : Int) < (k : Int)) = false := decide_eq_false (by omega)
      obtain ⟨w0, rfl⟩ : ∃ z, z = wr := ⟨wr, rfl⟩
      have hc2 := HC.out
      rw [if_pos (inn_of fun j hj => H.out j (by rw [HN1.out]; exact hj))] at hc2
      have HC2 := Lib.hid hc2
      clear HC H hc2
      go_wp2_with fail
      go_loopw [35] (fun iv wq => ∃ j : Nat, j ≤ n ∧ iv = .int .i64 j ∧ Hid (Below w0.heap.size w0 wq) ∧ Hid (∀ i, i < j → badW k (row ws i) = 0)) (fun i _ => n - (intOf i).toNat)
      case atStart => exact ⟨0, Nat.zero_le _, rfl, Lib.hid (brefl _), Lib.hid fun j hj => absurd hj (Nat.not_lt_zero _)⟩
      case round =>
        obtain ⟨j, hj, rfl, HBW, HZ⟩ := hrel
        by_cases hjk : j < n
        · have v1 : decide ((j : Int) < (n : Int)) = true := decide_eq_true (by omega)
          have hjl : j < ws.length := by rw [← HN.out]; exact hjk
          obtain ⟨b, off, rfl, hrow⟩ := rows_at HI.out (by omega)
          obtain ⟨q, c1, hck, hik⟩ := hrow wr HBW.out j hjl
          obtain ⟨m, hm⟩ : ∃ m, (row ws j).length = m := ⟨_, rfl⟩
          have hlm := hik.len_le
          rw [hm] at hck hlm
          obtain ⟨d, hd⟩ : ∃ d, badW k (row ws j) = d := ⟨_, rfl⟩
          have C := Lib.hid (WA.out q c1 m (row ws j) k wr hm.symm hik h6' d hd)
          by_cases h0 : d = 0
          · have HZ2 := Lib.hid (show ∀ i, i < j + 1 → badW k (row ws i) = 0 from fun i hi => by
              by_cases e : i = j
              · rw [e, hd, h0]
              · exact HZ.out i (by omega))
            subst h0
            rw [er_0] at C
            clear hrow hik hm hd hjl
            go_wp2_with fail
            refine C.out.mono ?_; rintro e w1 ⟨rfl, hb⟩
            have HB2 := Lib.hid (bcall HBW.out hb)
            clear hb C
            go_wp2_with fail
            go_roundw
            case rel => exact ⟨j + 1, by omega, by first | rfl | go_num, HB2, HZ2⟩
            case measure => simp [intOf]; omega
          · have HE := Lib.hid (show d = c by rw [← HC2.out, badWs_at ws j hjl HZ.out (by rw [hd]; exact h0), hd])
            rw [er_ne h0] at C
            have HR := Lib.hid (er_ne h0)
            clear hrow hik hm hd hjl h0
            go_wp2_with fail
            refine C.out.mono ?_; rintro e w1 ⟨rfl, hb⟩
            have HB2 := Lib.hid (bcall HBW.out hb)
            clear hb C
            go_wp2_with fail
            go_ret
            exact ⟨by rw [← HE.out, HR.out]; rfl, HB2.out⟩
        · obtain rfl : j = n := by omega
          have v1 : decide ((j : Int) < (j : Int)) = false := decide_eq_false (by omega)
          have HE := Lib.hid (show c = 0 by rw [← HC2.out]; exact badWs_none fun i hi => HZ.out i (by rw [HN.out]; exact hi))
          go_wp2_with fail
          go_ret
          exact ⟨by rw [HE.out]; rfl, HBW.out⟩
end Go.Proofs.YtggnpecmldnmnaaDoor.Maxmin
