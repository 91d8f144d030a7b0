/- MaxminNeck: every flow has a bottleneck link on which no flow has a larger rate: for every input. No condition. -/
import Derived.Test.YtggnpecmldnmnaaMaxFact
import Derived.Test.YtggnpecmldnmnaaMaxLeft
import Derived.BigQuiet
import Derived.Test.YtggnpecmldnmnaaBehind
import Derived.Test.YtggnpecmldnmnaaHasIn
import Derived.BigRegion
namespace Go.Proofs.Ytggnpecmldnmnaa.MaxminNeckL
open Go.ChangeShapes Go.WideShapes Go.ChangeAt Go.RowKit Go.Proofs.Ytggnpecmldnmnaa.Kit Go.Proofs.Ytggnpecmldnmnaa.App Go.Proofs.Ytggnpecmldnmnaa.Err Go.Proofs.Ytggnpecmldnmnaa.Drr Go.Proofs.Ytggnpecmldnmnaa.Maxmin
set_option linter.unusedVariables false
set_option maxRecDepth 20000
set_option maxHeartbeats 2000000
abbrev Law (p1 : Option Addr) (n1 cap1 : Nat) (p : Option Addr) (n cap : Nat) (w : World) : Prop := Calls Try.prog 4 #[.slice p1 n1 cap1, .slice p n cap] w fun e w' => e = .returned (.bool true) ∧ Below w.heap.size w w'
theorem law_bad (p1 : Option Addr) (n1 cap1 : Nat) (room : List Int) (p : Option Addr) (n cap : Nat) (ws : List (List Int)) (w : World) (hn1 : n1 = room.length) (hi1 : Ints w p1 cap1 room) (hn : n = ws.length) (hi : RowsI w p cap ws) (c : Int) (hc : code room ws = c) (h0 : c ≠ 0) : Law p1 n1 cap1 p n cap w := by
  have RU := Lib.hid (fun W (hW : Below w.heap.size w W) => share_bad p1 cap1 n1 room p cap n ws W hn1 (hi1.below hW) hn (hi.below hW) c hc h0)
  rw [er_ne h0] at RU
  clear hn1 hi1 hn hi hc h0
  have FA := Lib.hid (fact_any w)
  unfold Law
  go_enter Try.func4, Try.ntmps4
  go_wp2_with fail
  refine FA.out.mono ?_; rintro e w1 ⟨rfl, hb1⟩
  clear FA
  go_wp2_with fail
  refine (RU.out w1 hb1).mono ?_; rintro e w2 ⟨rfl, hb2⟩
  have HB2 := Lib.hid (bcall hb1 hb2)
  clear RU hb1 hb2
  go_wp2_with fail
  go_ret
  exact ⟨by first | rfl | simp, HB2.out⟩
theorem law_good (p1 : Option Addr) (n1 cap1 : Nat) (room : List Int) (p : Option Addr) (n cap : Nat) (ws : List (List Int)) (w : World) (hn1 : n1 = room.length) (hi1 : Ints w p1 cap1 room) (hn : n = ws.length) (hi : RowsI w p cap ws) (hz : code room ws = 0) : Law p1 n1 cap1 p n cap w := by
  have hg := code_zero.1 hz
  obtain ⟨N, r, hr⟩ := runs_exist hg
  have RU := Lib.hid (fun W (hW : Below w.heap.size w W) => share_good p1 cap1 n1 room p cap n ws W hn1 (hi1.below hW) hn (hi.below hW) hg N r hr)
  obtain ⟨he1, he2, he3⟩ := ends hg hr
  have hn5 : n ≤ 5 := by rw [hn]; exact hg.flows
  have hl6 : n1 ≤ 6 := by rw [hn1]; exact hg.links
  have BE := Lib.hid (fun W (hW : Below w.heap.size w W) => behind_own p1 cap1 n1 room 0 W hn1 (hi1.below hW) (by have := hg.links; omega) (by decide))
  have HE1 := Lib.hid he1
  have HE3 := Lib.hid he3
  have HG := Lib.hid hg
  have HN1 := Lib.hid hn1
  have HN := Lib.hid hn
  have HI := Lib.hid hi
  have hlp := hi.len_le
  rw [← hn] at hlp
  clear hn1 hi1 hn hi hz hr he1 he2 he3 hg
  have FA := Lib.hid (fact_any w)
  unfold Law
  go_enter Try.func4, Try.ntmps4
  go_wp2_with fail
  refine FA.out.mono ?_; rintro e w1 ⟨rfl, hb1⟩
  clear FA
  go_wp2_with fail
  refine (RU.out w1 hb1).mono ?_; rintro e w2 ⟨q, rfl, ho, hb2⟩
  have HB2 := Lib.hid (bcall hb1 hb2)
  have HO := Lib.hid ho
  have u0 : ((n : Int) != (n : Int)) = false := by simp
  clear RU hb1 hb2 ho
  go_wp2_with fail
  refine (BE.out w2 HB2.out).mono ?_; rintro e w3 ⟨g, c, rfl, hog, hg2, hb3⟩
  obtain ⟨M, hM⟩ : ∃ M, n1 + 1 = M := ⟨_, rfl⟩
  obtain ⟨w4, hm4, ho4, hg4⟩ := made_ints w3 M (by omega)
  have hb4 : Below w3.heap.size w3 w4 := (brefl w3).grown hg4 (Nat.le_refl _) (fun k hk => by cases hk)
  obtain ⟨g2, hG2⟩ : ∃ g2, w3.heap.size = g2 := ⟨_, rfl⟩
  have HL0 : Hid (Lk room ws n M (am n r) w2 w4 g c g2 0 0 0) := Lib.hid (by
    have hl := (hog.lt g rfl).2
    have hs := hb3.size
    rw [hM] at hog
    refine ⟨⟨hb3.trans (hb4.mono hs), ?_⟩, ?_, by omega⟩
    · rw [cp_behind, ← HN1.out, hM] at hog
      rw [lt_congr (g := cp room) fun y _ => by rw [tak_zero, Int.sub_zero]]
      exact hog.below hb4
    · rw [lt_congr (g := fun _ => 0) fun y _ => by rw [tak_zero], ← lt_zero, ← hG2]
      exact own_mono ho4 hs)
  rw [hG2] at hm4
  rw [hM]
  have hM' : (n1 : Int) + 1 = (M : Int) := by omega
  clear BE hog hb3 ho4 hg4 hb4 hG2
  have HBW := Lib.hid (fun W (hW : Below w2.heap.size w2 W) => bcall HB2.out hW)
  go_wp2_with fail
  clear hm4
  go_loopw [10] (fun iv wr => ∃ i : Nat, i ≤ n ∧ iv = .int .i64 i ∧ Hid (Lk room ws n M (am n r) w2 wr g c g2 i 0 0)) (fun i _ => n - (intOf i).toNat)
  case atStart => exact ⟨0, Nat.zero_le _, rfl, HL0⟩
  case round =>
    clear HL0
    obtain ⟨i, hin, rfl, HL⟩ := hrel
    by_cases hlt : i < n
    · have u1 : decide ((i : Int) < (n : Int)) = true := decide_eq_true (by omega)
      obtain ⟨gq, cq, hq, _, _, _, _⟩ := own_pos HO.out (by rw [lt_len]; omega)
      rw [lt_len] at hq
      injection hq with hq e2 e3
      clear e2 e3
      subst hq
      have hil : i < ws.length := by rw [← HN.out]; exact hlt
      obtain ⟨hr0, hr1⟩ := HE1.out i hil
      have HOC : Hid (∀ W, Below w2.heap.size w2 W → W.cell? ⟨gq, i, none⟩ = some (.int .i64 (r i))) := Lib.hid (fun W hW => by
        have := own_cell (HO.out.below hW) i (by rw [lt_len]; exact hlt)
        rwa [lt_get _ _ _ hlt] at this)
      obtain ⟨b, off, rfl, hrow⟩ := rows_both HI.out (by omega)
      obtain ⟨q1, c1, hlz, hrw⟩ := hrow i hil
      obtain ⟨z, hz⟩ : ∃ z, (row ws i).length = z := ⟨_, rfl⟩
      rw [hz] at hlz
      have HRW := Lib.hid (fun W hW => hrw W (HBW.out W hW))
      have HIL := Lib.hid hil
      have HZ := Lib.hid hz
      have HRI := Lib.hid (am_at (r := r) hlt)
      have hin' : (i : Int) < (n : Int) := by omega
      generalize hri : r i = ri at hr0 hr1 HOC HRI
      clear hrow hrw hil hz hri
      go_wp2_with fail
      go_loopw [11] (fun kv wr => ∃ k : Nat, k ≤ z ∧ kv = .int .i64 k ∧ Hid (Lk room ws n M (am n r) w2 wr g c g2 i k k)) (fun k _ => z - (intOf k).toNat)
      case atStart => exact ⟨0, Nat.zero_le _, rfl, HL⟩
      case round =>
        clear HL
        obtain ⟨k, hk, rfl, HK⟩ := hrel
        obtain ⟨hck, hik⟩ := HRW.out wr HK.out.lft.bel
        rw [HZ.out] at hck
        by_cases hkz : k < z
        · have v1 : decide ((k : Int) < (z : Int)) = true := decide_eq_true (by omega)
          have hkl : k < (row ws i).length := by rw [HZ.out]; exact hkz
          obtain ⟨x, hx, hx6, hxL⟩ := link_at HG.out HIL.out hkl
          obtain ⟨b3, off3, rfl, _, hcc⟩ := hik.2.2.2 (by omega)
          have hck3 := hcc k hkl
          rw [hx] at hck3
          have hxM : x < M := by have := HN1.out; omega
          have hxM' : (x : Int) < (M : Int) := by omega
          have hcl := HK.out.lft.cell hxM
          have hfl := HK.out.lft.fz x
          have hlc := HOC.out wr HK.out.lft.bel
          have ht := tak_in HG.out.once (am_in (B := 1000) (by omega) (fun i hi => HE1.out i (by rw [← HN.out]; exact hi))) hn5 i k (x : Int)
          have ht2 := tak_in HG.out.once (a := fun _ => 1) (B := 1) (fun _ => ⟨by decide, Int.le_refl _⟩) hn5 i k (x : Int)
          have hc := cp_in HG.out hxL
          have HV := Lib.hid (HK.out.step1 hlt hkl hx (cp room (x : Int) - tak ws n (am n r) i k (x : Int) - ri) (by rw [HRI.out]) (by omega))
          obtain ⟨s, hs0⟩ : ∃ s, cp room (x : Int) - tak ws n (am n r) i k (x : Int) = s := ⟨_, rfl⟩
          have hs : -10000 ≤ s ∧ s ≤ 10000 := by omega
          rw [hs0] at hcl HV
          obtain ⟨y, hy0⟩ : ∃ y, tak ws n (fun _ => 1) i k (x : Int) = y := ⟨_, rfl⟩
          rw [hy0] at ht2
          have HY := Lib.hid hy0
          have HX := Lib.hid (And.intro hkl (And.intro hx hxM))
          have hwr := wrap_in (n := s - ri) (by omega)
          have hwr2 := wrap_in (n := y + 1) (by omega)
          have hkz' : (k : Int) < (z : Int) := by omega
          clear hcc hkl hx hx6 hxL ht hc hik hs0 hy0 hxM
          go_wp2_with fail
          go_region
          have HV2 := Lib.hid HV.out.drew
          clear HV hck hck3 hcl hfl hlc
          generalize (wr.setCell ⟨g, x, none⟩ (.int .i64 (s - ri))).drew = wq at HV2 ⊢
          obtain ⟨hck, hik⟩ := HRW.out wq HV2.out.lft.bel
          rw [HZ.out] at hck
          obtain ⟨b4, off4, hb4, _, hcc⟩ := hik.2.2.2 (by have := HX.out.1; omega)
          injection hb4 with hb4
          injection hb4 with hb4 hb5
          subst hb4; subst hb5
          have hck3 := hcc k HX.out.1
          rw [HX.out.2.1] at hck3
          have hcm := HV2.out.cell2 HX.out.2.2
          rw [HY.out] at hcm
          have hfm := HV2.out.fz2 x
          have HW := Lib.hid (HV2.out.step2 hlt HX.out.1 HX.out.2.1 (y + 1) (by rw [HY.out]) (by omega))
          clear hcc hik
          go_wp2_with fail
          go_region
          go_wp2_with fail
          go_roundw
          case rel => exact ⟨k + 1, by omega, by first | rfl | go_num, by first | exact Lib.hid HW.out.drew | exact HW⟩
          case measure => simp [intOf]; omega
        · obtain rfl : k = z := by omega
          have v1 : decide ((k : Int) < (k : Int)) = false := decide_eq_false (by omega)
          have HN2 := Lib.hid (show Lk room ws n M (am n r) w2 wr g c g2 (i + 1) 0 0 from Lk.next (by rw [HZ.out]; exact HK.out) hlt)
          clear hik
          go_wp2_with fail
          go_roundw
          case rel => exact ⟨i + 1, by omega, by first | rfl | go_num, HN2⟩
          case measure => simp [intOf]; omega
    · obtain rfl : i = n := by omega
      have u1 : decide ((i : Int) < (i : Int)) = false := decide_eq_false (by omega)
      obtain ⟨w5, rfl⟩ : ∃ z, z = wr := ⟨wr, rfl⟩
      have HBD : Hid (∀ W, (∃ m, W = w5.drewN m) → Below w2.heap.size w2 W) := Lib.hid (fun W hW => by obtain ⟨m, rfl⟩ := hW; exact bdrewN HL.out.lft.bel m)
      have HLF : Hid (∀ W, (∃ m, W = w5.drewN m) → ∀ x : Nat, x < n1 → W.cell? ⟨g, x, none⟩ = some (.int .i64 (lf room ws r (x : Int)))) := Lib.hid (fun W hW x hx => by obtain ⟨m, rfl⟩ := hW; exact (HL.out.lft.drewN m).left HG.out.once HN.out (by omega))
      have HMF : Hid (∀ W, (∃ m, W = w5.drewN m) → ∀ x : Nat, x < n1 → W.cell? ⟨g2, x, none⟩ = some (.int .i64 (us ws all (x : Int)))) := Lib.hid (fun W hW x hx => by obtain ⟨m, rfl⟩ := hW; exact (HL.out.drewN m).many HG.out.once HN.out (by omega))
      clear HL
      go_wp2_with fail
      go_loopw [12] (fun iv wr => ∃ j : Nat, j ≤ i ∧ iv = .int .i64 j ∧ Hid (∃ m, wr = w5.drewN m)) (fun k _ => i - (intOf k).toNat)
      case atStart => exact ⟨0, Nat.zero_le _, rfl, Lib.hid ⟨0, rfl⟩⟩
      case round =>
        obtain ⟨j, hj, rfl, HD⟩ := hrel
        by_cases hji : j < i
        · have v3 : decide ((j : Int) < (i : Int)) = true := decide_eq_true (by omega)
          obtain ⟨gq, cq, hq, _, _, _, _⟩ := own_pos HO.out (by rw [lt_len]; omega)
          rw [lt_len] at hq
          injection hq with hq e2 e3
          clear e2 e3
          subst hq
          have HOC : Hid (∀ W, (∃ m, W = w5.drewN m) → ∀ t, t < i → W.cell? ⟨gq, t, none⟩ = some (.int .i64 (r t))) := Lib.hid (fun W hW t ht => by
            have := own_cell (HO.out.below (HBD.out W hW)) t (by rw [lt_len]; exact ht)
            rwa [lt_get _ _ _ ht] at this)
          have hjl : j < ws.length := by rw [← HN.out]; exact hji
          obtain ⟨b, off, rfl, hrow⟩ := rows_both HI.out (by omega)
          obtain ⟨q1, c1, hlz, hrw⟩ := hrow j hjl
          obtain ⟨z, hz⟩ : ∃ z, (row ws j).length = z := ⟨_, rfl⟩
          rw [hz] at hlz
          have HRW := Lib.hid (fun W hW => hrw W (HBW.out W (HBD.out W hW)))
          have HRR := Lib.hid (fun t (ht : t < i) => hrow t (by rw [← HN.out]; exact ht))
          have HZ := Lib.hid hz
          have HJL := Lib.hid hjl
          have hji' : (j : Int) < (i : Int) := by omega
          clear hrow hrw hz hjl
          go_wp2_with fail
          go_loopw [13, 14] (fun fv kv wr => ∃ (k : Nat) (fb : Bool), k ≤ z ∧ kv = .int .i64 k ∧ fv = .bool fb ∧ Hid (∃ m, wr = w5.drewN m) ∧ Hid (fb = true ↔ ∃ k', k' < k ∧ ((∀ t, t < i → (row ws j)[k']?.getD 0 ∈ row ws t → r t ≤ r j) ∧ lf room ws r ((row ws j)[k']?.getD 0) < us ws all ((row ws j)[k']?.getD 0)))) (fun _ k _ => z - (intOf k).toNat)
          case atStart => exact ⟨0, false, Nat.zero_le _, rfl, rfl, HD, Lib.hid ⟨fun h => (nomatch h), fun ⟨k', h, _⟩ => absurd h (Nat.not_lt_zero _)⟩⟩
          case round =>
            clear HD
            obtain ⟨k, fb, hk, rfl, rfl, HD, HF⟩ := hrel
            obtain ⟨hck, hik⟩ := HRW.out wr HD.out
            rw [HZ.out] at hck
            by_cases hkz : k < z
            · have v4 : decide ((k : Int) < (z : Int)) = true := decide_eq_true (by omega)
              have hkl : k < (row ws j).length := by rw [HZ.out]; exact hkz
              obtain ⟨x, hx, hx6, hxL⟩ := link_at HG.out HJL.out hkl
              obtain ⟨b3, off3, rfl, _, hcc⟩ := hik.2.2.2 (by omega)
              have hck3 := hcc k hkl
              rw [hx] at hck3
              have hxn : x < n1 := by have := HN1.out; omega
              have HXN := Lib.hid hxn
              have hxM' : (x : Int) < (M : Int) := by omega
              have hkz' : (k : Int) < (z : Int) := by omega
              have HX := Lib.hid hx
              clear hcc hkl hx hx6 hxL hik hxn
              go_wp2_with fail
              clear hck hck3
              go_loopw [16, 17] (fun mv tv wr => ∃ (t : Nat) (mb : Bool), t ≤ i ∧ tv = .int .i64 t ∧ mv = .bool mb ∧ Hid (∃ m, wr = w5.drewN m) ∧ Hid (mb = true ↔ ∀ t', t' < t → (x : Int) ∈ row ws t' → r t' ≤ r j)) (fun _ t _ => i - (intOf t).toNat)
              case atStart => exact ⟨0, true, Nat.zero_le _, rfl, rfl, HD, Lib.hid ⟨fun _ t' h => absurd h (Nat.not_lt_zero _), fun _ => rfl⟩⟩
              case round =>
                clear HD
                obtain ⟨t, mb, ht, rfl, rfl, HD, HM⟩ := hrel
                by_cases hti : t < i
                · have v5 : decide ((t : Int) < (i : Int)) = true := decide_eq_true (by omega)
                  have hti' : (t : Int) < (i : Int) := by omega
                  obtain ⟨q2, c2, hlz2, hrw2⟩ := HRR.out t hti
                  obtain ⟨hckt, hikt⟩ := hrw2 wr (HBW.out wr (HBD.out wr HD.out))
                  obtain ⟨z2, hz2⟩ : ∃ z, (row ws t).length = z := ⟨_, rfl⟩
                  rw [hz2] at hlz2 hckt
                  have hct := HOC.out wr HD.out t hti
                  have hcj := HOC.out wr HD.out j hji
                  have HDN : Hid (∀ nq, ∃ m, wr.drewN nq = w5.drewN m) := Lib.hid fun nq => by obtain ⟨m, e⟩ := HD.out; exact ⟨m + nq, by rw [e, World.drewN_drewN]⟩
                  obtain ⟨R, hR⟩ : ∃ R, R = decide ((x : Int) ∈ row ws t) := ⟨_, rfl⟩
                  have C := Lib.hid (fun nq => has_in q2 c2 z2 (row ws t) (x : Int) (wr.drewN nq) hz2.symm (hikt.below (bdrewN (brefl wr) nq)) R hR)
                  obtain ⟨d, hd⟩ : ∃ d, decide (r t ≤ r j) = d := ⟨_, rfl⟩
                  have HM2 : Hid ((mb && (!R || d)) = true ↔ ∀ t', t' < t + 1 → (x : Int) ∈ row ws t' → r t' ≤ r j) := Lib.hid (by
                    rw [Bool.and_eq_true, HM.out, Bool.or_eq_true, ← hd, decide_eq_true_iff, hR]
                    constructor
                    · rintro ⟨h1, h2⟩ t' h3 h4
                      by_cases e : t' = t
                      · subst e
                        rcases h2 with h2 | h2
                        · rw [decide_eq_true h4] at h2; cases h2
                        · exact h2
                      · exact h1 t' (by omega) h4
                    · intro h
                      refine ⟨fun t' h1 h2 => h t' (by omega) h2, ?_⟩
                      by_cases e : (x : Int) ∈ row ws t
                      · exact .inr (h t (by omega) e)
                      · rw [decide_eq_false e]; exact .inl rfl)
                  clear hrw2 hikt hz2 hR HM HD
                  obtain ⟨rt1, hrt1⟩ : ∃ y, r t = y := ⟨_, rfl⟩
                  rw [hrt1] at hct hd
                  clear hrt1
                  obtain ⟨rj1, hrj1⟩ : ∃ y, r j = y := ⟨_, rfl⟩
                  rw [hrj1] at hcj hd
                  clear hrj1
                  cases mb with
                  | false =>
                    clear C hd hckt hct hcj
                    go_wp2_with fail
                    go_quiet (fail)
                    go_wp2_with fail
                    go_roundw
                    case rel => exact ⟨t + 1, false, by omega, by first | rfl | go_num, rfl, Lib.hid (HDN.out _), by simpa using HM2⟩
                    case measure => simp [intOf]; omega
                  | true =>
                    cases R with
                    | false =>
                      clear hd hct hcj
                      go_wp2_with fail
                      go_quiet ((go_at_call 10; refine Calls.quiet_of_same (C.out _)))
                      go_wp2_with fail
                      go_roundw
                      case rel => exact ⟨t + 1, true, by omega, by first | rfl | go_num, rfl, Lib.hid (HDN.out _), by simpa using HM2⟩
                      case measure => simp [intOf]; omega
                    | true =>
                      go_wp2_with fail
                      go_quiet ((go_at_call 10; refine Calls.quiet_of_same (C.out _)))
                      go_wp2_with fail
                      go_roundw
                      case rel => exact ⟨t + 1, d, by omega, by first | rfl | go_num, by first | rfl | rw [← hd], Lib.hid (HDN.out _), by simpa using HM2⟩
                      case measure => simp [intOf]; omega
                · obtain rfl : t = i := by omega
                  have v5 : decide ((t : Int) < (t : Int)) = false := decide_eq_false (by omega)
                  have hcl := HLF.out wr HD.out x HXN.out
                  have hcm := HMF.out wr HD.out x HXN.out
                  have HDN : Hid (∀ nq, ∃ m, wr.drewN nq = w5.drewN m) := Lib.hid fun nq => by obtain ⟨m, e⟩ := HD.out; exact ⟨m + nq, by rw [e, World.drewN_drewN]⟩
                  obtain ⟨d, hd⟩ : ∃ d, decide (lf room ws r (x : Int) < us ws all (x : Int)) = d := ⟨_, rfl⟩
                  have HF2 : Hid ((fb || (mb && d)) = true ↔ ∃ k', k' < k + 1 ∧ ((∀ t', t' < t → (row ws j)[k']?.getD 0 ∈ row ws t' → r t' ≤ r j) ∧ lf room ws r ((row ws j)[k']?.getD 0) < us ws all ((row ws j)[k']?.getD 0))) := Lib.hid (by
                    rw [Bool.or_eq_true, HF.out, Bool.and_eq_true, HM.out, ← hd, decide_eq_true_iff]
                    constructor
                    · rintro (⟨k', h1, h2⟩ | h)
                      · exact ⟨k', by omega, h2⟩
                      · exact ⟨k, by omega, by rw [HX.out]; exact h⟩
                    · rintro ⟨k', h1, h2⟩
                      by_cases e : k' = k
                      · subst e; rw [HX.out] at h2; exact .inr h2
                      · exact .inl ⟨k', by omega, h2⟩)
                  clear HF HM HD
                  obtain ⟨y1, hy1⟩ : ∃ y, lf room ws r (x : Int) = y := ⟨_, rfl⟩
                  rw [hy1] at hcl hd
                  clear hy1
                  obtain ⟨y2, hy2⟩ : ∃ y, us ws all (x : Int) = y := ⟨_, rfl⟩
                  rw [hy2] at hcm hd
                  clear hy2
                  cases fb with
                  | true =>
                    clear hd hcl hcm
                    go_wp2_with fail
                    go_quiet (fail)
                    go_wp2_with fail
                    go_roundw
                    case rel => exact ⟨k + 1, true, by omega, by first | rfl | go_num, rfl, Lib.hid (HDN.out _), by simpa using HF2⟩
                    case measure => simp [intOf]; omega
                  | false =>
                    cases mb with
                    | false =>
                      clear hd hcl hcm
                      go_wp2_with fail
                      go_quiet (fail)
                      go_wp2_with fail
                      go_roundw
                      case rel => exact ⟨k + 1, false, by omega, by first | rfl | go_num, rfl, Lib.hid (HDN.out _), by simpa using HF2⟩
                      case measure => simp [intOf]; omega
                    | true =>
                      go_wp2_with fail
                      go_quiet (fail)
                      go_wp2_with fail
                      go_roundw
                      case rel => exact ⟨k + 1, d, by omega, by first | rfl | go_num, by first | rfl | rw [← hd], Lib.hid (HDN.out _), by simpa using HF2⟩
                      case measure => simp [intOf]; omega
            · obtain rfl : k = z := by omega
              have v4 : decide ((k : Int) < (k : Int)) = false := decide_eq_false (by omega)
              obtain rfl : fb = true := HF.out.2 (by
                obtain ⟨x, hx, h1, h2⟩ := HE3.out j HJL.out
                obtain ⟨k', hk', rfl⟩ := List.getElem_of_mem hx
                have e : (row ws j)[k']?.getD 0 = (row ws j)[k'] := by rw [List.getElem?_eq_getElem hk']; rfl
                exact ⟨k', by rw [← HZ.out]; exact hk', by rw [e]; exact fun t ht hm => h2 t (by rw [← HN.out]; exact ht) hm, by rw [e]; exact h1⟩)
              clear hik
              go_wp2_with fail
              go_roundw
              case rel => exact ⟨j + 1, by omega, by first | rfl | go_num, HD⟩
              case measure => simp [intOf]; omega
        · obtain rfl : j = i := by omega
          have v3 : decide ((j : Int) < (j : Int)) = false := decide_eq_false (by omega)
          have HB9 := Lib.hid (HBW.out wr (HBD.out wr HD.out))
          go_wp2_with fail
          go_ret
          exact ⟨by first | rfl | simp, HB9.out⟩

theorem reads : Try.f4.params.toList.all (fun t => Try.prog.readableRec t && decide (t < Try.prog.types.size)) = true := by kernel_rfl

theorem contract (H : Type) (enc : TypeId × Value → H) (W : World) (base : Nat) (args : Array Value) (ds gs : List (DataW H)) (before : List MemPlace)
    (hval : ∀ (j : Nat) t v, Try.f4.params[j]? = some t → args[j]? = some v → Value.okWide Try.prog W .any base t v)
    (hW : DataW.Whole enc Try.prog Try.f4.params.toList Rows.maxminNeckSpec.vars false W args.toList ds gs before) :
    Calls Try.prog 4 args W fun e W' => ∃ v, e = .returned v ∧ Rows.maxminNeckSpec.post enc Try.prog Try.f4 false true false false W args v W' := by
  have hW' := hW
  obtain ⟨p, q, hA0, hV, rfl, hfz, hnd⟩ := hW
  have hA : DataW.TrodAll enc Try.prog W 0 (fun _ => true) true Try.f4.params.toList args.toList ds p := hA0
  have hlt := hA.lt
  rw [Try.params4] at hA hval
  obtain ⟨v0, vs0, d0, ds0, p0, q0, hargs, rfl, rfl, h0, r0⟩ := trodAll_cons hA
  obtain ⟨v1, vs1, d1, ds1, p1, q1, hvs1, rfl, rfl, h1, r1⟩ := trodAll_cons r0
  obtain ⟨hvsn, rfl, rfl⟩ := trodAll_nil r1
  simp only [hvsn, hvs1] at hargs
  obtain rfl : args = #[v0, v1] := by cases args; simp_all
  obtain ⟨rfl, rfl⟩ := trodVars_none hV
  clear hA0
  obtain ⟨p0a, cap0, l0, rfl, i0⟩ := open_intsl Try.underlying22 Try.underlying3 (by kernel_rfl) (hval 0 22 v0 rfl rfl) h0 (fun x hx => hlt x (by simp [hx]))
  obtain ⟨p1a, cap1, l1, rfl, i1, e1⟩ := open_rows Try.underlying23 Try.underlying22 Try.underlying3 (by kernel_rfl) (by kernel_rfl) (hval 1 23 v1 rfl rfl) h1 (fun x hx => hlt x (by simp [hx]))
  exact law_post 4 laid reads rfl Try.underlying4 rfl hW' ⟨rfl, rfl, rfl⟩ (by
    by_cases h : code l0 l1 = 0
    · exact law_good _ _ _ l0 _ _ _ l1 W rfl i0 rfl i1 h
    · exact law_bad _ _ _ l0 _ _ _ l1 W rfl i0 rfl i1 _ rfl h)

set_option maxRecDepth 100000 in
theorem lifted (os : Os) (started : os.Started) (H : Type) (enc : TypeId × Value → H) :
    ReturnsInHanded {} Try.checked os 4 .any (Rows.maxminNeckSpec.pre6 enc Try.prog Try.f4 Rows.maxminNeckRow.domain false) (Rows.maxminNeckSpec.post enc Try.prog Try.f4 false true false false) := by
  refine returnsInHanded_of_change (C := Try.checked) own started (by kernel_rfl) Try.func4
    (ChangeSpec.witness6 (enc := enc) (C := Try.checked) false ⟨#[], #[.slice none 0 0, .slice none 0 0], []⟩ 8 (by kernel_rfl) (by kernel_rfl) (by kernel_rfl) (by kernel_rfl)) ?_
  intro W base args ds gs before hval hW _ _
  exact contract H enc W base args ds gs before hval hW

theorem proved : Rows.MaxminNeckSaid :=
  OpenClaim.holds_of_wide 4 Try.f4 rfl rfl rfl rfl rfl rfl rfl ⟨rfl, rfl, rfl, rfl, rfl⟩ rfl rfl rfl rfl rfl (by kernel_rfl) Try.func4 (by kernel_rfl)
    (of_decide_eq_true (by kernel_rfl)) (by unfold Func.isWrapper; first | (rw [if_pos (by decide +kernel)]; kernel_rfl) | (rw [if_neg (by decide +kernel)]; exact ⟨rfl, rfl⟩))
    (fun os started H enc _ => lifted os started H enc)
end Go.Proofs.Ytggnpecmldnmnaa.MaxminNeckL
