/- The document's answer on links and flows: Ways. No statement is proved here. -/
import Derived.Test.YtggnpecmldnmnaaDoorMaxMem
import Derived.Test.YtggnpecmldnmnaaDoorAll
import Derived.Test.YtggnpecmldnmnaaDoorHasIn
import Derived.BigQuiet
namespace Go.Proofs.YtggnpecmldnmnaaDoor.Maxmin
open Go.ChangeShapes Go.WideShapes Go.ChangeAt Go.RowKit Go.Proofs.YtggnpecmldnmnaaDoor.Kit Go.Proofs.YtggnpecmldnmnaaDoor.App Go.Proofs.YtggnpecmldnmnaaDoor.Err Go.Proofs.YtggnpecmldnmnaaDoor.Drr
set_option linter.unusedVariables false
set_option maxRecDepth 20000
set_option maxHeartbeats 1000000

theorem ways_any (p1 : Option Addr) (cap1 n1 : Nat) (room : List Int) (p : Option Addr) (cap n : Nat) (ws : List (List Int)) (w : World) (hn1 : n1 = room.length) (hi1 : Ints w p1 cap1 room) (hn : n = ws.length) (hi : RowsI w p cap ws) (c : Int) (hc : code room ws = c) :
    Calls Tryd.prog 4 #[.slice p1 n1 cap1, .slice p n cap] w fun e w' => e = .returned (.int .i64 c) ∧ ∃ m, w' = w.drewN m := by
  have hlen1 := hi1.len_le
  have hlen := hi.len_le
  rw [← hn1] at hlen1
  rw [← hn] at hlen
  unfold code at hc
  rw [← hn1, ← hn] at hc
  by_cases h6 : 6 < n1
  · have t1 : decide ((n1 : Int) > 6) = true := decide_eq_true (by omega)
    rw [if_pos (.inl h6)] at hc
    subst hc
    clear hn1 hn hi1 hi h6
    go_enter Tryd.func4, Tryd.ntmps4
    go_wp2_with fail
    go_ret
    exact ⟨rfl, 0, rfl⟩
  have t1 : decide ((n1 : Int) > 6) = false := decide_eq_false (by omega)
  by_cases h5 : 5 < n
  · have t2 : decide ((n : Int) > 5) = true := decide_eq_true (by omega)
    rw [if_pos (.inr h5)] at hc
    subst hc
    clear hn1 hn hi1 hi h6 h5
    go_enter Tryd.func4, Tryd.ntmps4
    go_wp2_with fail
    go_ret
    exact ⟨rfl, 0, rfl⟩
  have t2 : decide ((n : Int) > 5) = false := decide_eq_false (by omega)
  rw [if_neg (by omega)] at hc
  obtain ⟨R, hR⟩ : ∃ R, R = inn 0 1000 room := ⟨_, rfl⟩
  have AR := Lib.hid (all_any 0 1000 p1 cap1 n1 room w hn1 hi1 R hR)
  rw [← hR] at hc
  cases R with
  | false =>
    rw [if_neg (by decide)] at hc
    subst hc
    clear hn1 hn hi1 hi h6 h5 hR
    go_enter Tryd.func4, Tryd.ntmps4
    go_wp2_with fail
    refine AR.out.mono ?_; rintro e w1 ⟨rfl, rfl⟩
    go_wp2_with fail
    go_ret
    exact ⟨rfl, 0, rfl⟩
  | true =>
    rw [if_pos rfl] at hc
    have HC := Lib.hid hc
    have HI := Lib.hid hi
    have HN := Lib.hid hn
    have h6' : n1 ≤ 6 := by omega
    clear hc hi1 hn1 hi hn h6 h5 hR
    go_enter Tryd.func4, Tryd.ntmps4
    go_wp2_with fail
    refine AR.out.mono ?_; rintro e w1 ⟨rfl, rfl⟩
    clear AR
    go_wp2_with fail
    go_loopw [5] (fun iv wr => ∃ j : Nat, j ≤ n ∧ iv = .int .i64 j ∧ Hid (∃ m, wr = w.drewN m) ∧ Hid (∀ i, i < j → badW n1 (row ws i) = 0)) (fun i _ => n - (intOf i).toNat)
    case atStart => exact ⟨0, Nat.zero_le _, rfl, Lib.hid ⟨0, rfl⟩, Lib.hid fun j hj => absurd hj (Nat.not_lt_zero _)⟩
    case round =>
      obtain ⟨j, hj, rfl, HD, HZ⟩ := hrel
      have HBW : Hid (Below w.heap.size w wr) := Lib.hid (by obtain ⟨m, e⟩ := HD.out; rw [e]; exact bdrewN (brefl w) m)
      by_cases hjk : j < n
      · have v1 : decide ((j : Int) < (n : Int)) = true := decide_eq_true (by omega)
        have hjl : j < ws.length := by rw [← HN.out]; exact hjk
        obtain ⟨b, off, rfl, hrow⟩ := rows_both HI.out (by omega)
        obtain ⟨q, c1, hlm, hrw⟩ := hrow j hjl
        obtain ⟨hck, hik⟩ := hrw wr HBW.out
        obtain ⟨m, hm⟩ : ∃ m, (row ws j).length = m := ⟨_, rfl⟩
        rw [hm] at hck hlm
        have hjn' : (j : Int) < (n : Int) := by omega
        obtain ⟨d, hd⟩ : ∃ d, badW n1 (row ws j) = d := ⟨_, rfl⟩
        have HE : d ≠ 0 → d = c := fun h0 => by rw [← HC.out, badWs_at ws j hjl HZ.out (by rw [hd]; exact h0), hd]
        have HZ2 : d = 0 → ∀ i, i < j + 1 → badW n1 (row ws i) = 0 := fun h0 i hi => by
          by_cases e : i = j
          · rw [e, hd, h0]
          · exact HZ.out i (by omega)
        have HCE := Lib.hid HE
        have HCZ := Lib.hid HZ2
        unfold badW at hd
        rw [hm] at hd
        by_cases h0 : m = 0
        · have t0 : ((m : Int) == 0) = true := by rw [beq_iff_eq]; omega
          rw [if_pos h0] at hd
          have HX := Lib.hid (HE (by rw [← hd]; decide))
          rw [← hd] at HX
          clear hrow hrw hik hm hjl HE HZ2 h0 hd
          go_wp2_with fail
          go_ret
          exact ⟨by rw [← HX.out]; rfl, HD.out⟩
        · have t0 : ((m : Int) == 0) = false := by rw [beq_eq_false_iff_ne]; omega
          rw [if_neg h0] at hd
          obtain ⟨R2, hR2⟩ : ∃ R2, R2 = inn 0 ((n1 : Int) - 1) (row ws j) := ⟨_, rfl⟩
          have A2 := Lib.hid (all_any 0 ((n1 : Int) - 1) q c1 m (row ws j) wr hm.symm hik R2 hR2)
          rw [← hR2] at hd
          have hwr := wrap_in (n := (n1 : Int) - 1) (by omega)
          cases R2 with
          | false =>
            rw [if_neg (by decide)] at hd
            have HX := Lib.hid (HE (by rw [← hd]; decide))
            rw [← hd] at HX
            clear hrow hrw hik hm hjl HE HZ2 h0 hd hR2
            go_wp2_with fail
            refine A2.out.mono ?_; rintro e w2 ⟨rfl, rfl⟩
            go_wp2_with fail
            go_ret
            exact ⟨by rw [← HX.out]; rfl, HD.out⟩
          | true =>
            rw [if_pos rfl] at hd
            obtain ⟨b3, off3, hq3, _, _⟩ := hik.2.2.2 (by omega)
            subst hq3
            have HIK := Lib.hid hik
            have HM := Lib.hid hm
            have HDD := Lib.hid hd
            have hmc : m ≤ c1 := by rw [← hm]; exact hik.1
            have hcm : c1 ≤ 9223372036854775807 := by have := hik.2.1; unfold maxLen at this; exact this
            obtain ⟨w3, rfl⟩ : ∃ z, z = wr := ⟨wr, rfl⟩
            clear hrow hrw hik hm hjl HE HZ2 h0 hd hR2
            go_wp2_with fail
            refine A2.out.mono ?_; rintro e w2 ⟨rfl, rfl⟩
            clear A2 hwr
            go_wp2_with fail
            clear hck
            go_loopw [7] (fun kv wr => ∃ k : Nat, k ≤ m ∧ kv = .int .i64 k ∧ Hid (∃ t, wr = w3.drewN t) ∧ Hid (((row ws j).take k).Nodup)) (fun k _ => m - (intOf k).toNat)
            case atStart => exact ⟨0, Nat.zero_le _, rfl, Lib.hid ⟨0, rfl⟩, Lib.hid (by simp)⟩
            case round =>
              obtain ⟨k, hk, rfl, HT, HND⟩ := hrel
              have HDW : Hid (∃ t, wr = w.drewN t) := Lib.hid (by obtain ⟨t, e⟩ := HT.out; obtain ⟨u, e2⟩ := HD.out; exact ⟨u + t, by rw [e, e2, World.drewN_drewN]⟩)
              have hiw : Ints wr (some ⟨b3, off3, none⟩) c1 (row ws j) := by obtain ⟨t, e⟩ := HT.out; rw [e]; exact HIK.out.below (bdrewN (brefl w3) t)
              by_cases hkm : k < m
              · have v2 : decide ((k : Int) < (m : Int)) = true := decide_eq_true (by omega)
                have hkl : k < (row ws j).length := by rw [HM.out]; exact hkm
                obtain ⟨_, _, e3, _, hcc⟩ := hiw.2.2.2 (by omega)
                injection e3 with e3
                injection e3 with e3 e4
                subst e3; subst e4
                have hck3 := hcc k hkl
                obtain ⟨x, hx⟩ : ∃ x, (row ws j)[k]?.getD 0 = x := ⟨_, rfl⟩
                rw [hx] at hck3
                obtain ⟨R3, hR3⟩ : ∃ R3, R3 = decide (x ∈ (row ws j).take k) := ⟨_, rfl⟩
                have C := Lib.hid (fun nq => has_in (some ⟨b3, off3, none⟩) c1 k ((row ws j).take k) x (wr.drewN nq) (by rw [List.length_take]; omega) (ints_cut (hiw.below (bdrewN (brefl wr) nq)) k (by omega) c1 (by omega) hiw.2.1) R3 hR3)
                have hkc : k ≤ c1 := by omega
                have hkc' : (k : Int) ≤ (c1 : Int) := by omega
                have hkm' : (k : Int) < (m : Int) := by omega
                cases R3 with
                | true =>
                  have HX := Lib.hid (show (6 : Int) = c by
                    have h1 : ¬ (row ws j).Nodup := nodup_not hkl (by rw [hx]; exact of_decide_eq_true hR3.symm)
                    have h2 := HDD.out
                    rw [if_neg h1] at h2
                    rw [h2]
                    exact HCE.out (by rw [← h2]; decide))
                  have HDN : Hid (∀ nq, ∃ t, wr.drewN nq = w.drewN t) := Lib.hid fun nq => by obtain ⟨t, e⟩ := HDW.out; exact ⟨t + nq, by rw [e, World.drewN_drewN]⟩
                  clear hcc hiw hkl hx hR3 HDW
                  go_wp2_with fail
                  go_quiet ((go_at_call 11; refine Calls.quiet_of_same (C.out _)))
                  go_wp2_with fail
                  go_ret
                  exact ⟨by rw [← HX.out]; rfl, HDN.out _⟩
                | false =>
                  have HND2 := Lib.hid (nodup_step HND.out hkl (by rw [hx]; exact of_decide_eq_false hR3.symm))
                  have HTN : Hid (∀ nq, ∃ t, wr.drewN nq = w3.drewN t) := Lib.hid fun nq => by obtain ⟨t, e⟩ := HT.out; exact ⟨t + nq, by rw [e, World.drewN_drewN]⟩
                  clear hcc hiw hkl hx hR3
                  go_wp2_with fail
                  go_quiet ((go_at_call 11; refine Calls.quiet_of_same (C.out _)))
                  go_wp2_with fail
                  go_roundw
                  case rel => exact ⟨k + 1, by omega, by first | rfl | go_num, Lib.hid (HTN.out _), HND2⟩
                  case measure => simp [intOf]; omega
              · obtain rfl : k = m := by omega
                have v2 : decide ((k : Int) < (k : Int)) = false := decide_eq_false (by omega)
                have HZ3 := Lib.hid (HCZ.out (by
                  have h2 := HDD.out
                  have h3 := HND.out
                  rw [List.take_of_length_le (by rw [HM.out]; exact Nat.le_refl _)] at h3
                  rw [if_pos h3] at h2
                  exact h2.symm))
                clear hiw
                go_wp2_with fail
                go_roundw
                case rel => exact ⟨j + 1, by omega, by first | rfl | go_num, HDW, HZ3⟩
                case measure => simp [intOf]; omega
      · obtain rfl : j = n := by omega
        have v1 : decide ((j : Int) < (j : Int)) = false := decide_eq_false (by omega)
        have HX := Lib.hid (show c = 0 by rw [← HC.out]; exact badWs_none fun i hi => HZ.out i (by rw [HN.out]; exact hi))
        go_wp2_with fail
        go_ret
        exact ⟨by rw [HX.out]; rfl, HD.out⟩
end Go.Proofs.YtggnpecmldnmnaaDoor.Maxmin
