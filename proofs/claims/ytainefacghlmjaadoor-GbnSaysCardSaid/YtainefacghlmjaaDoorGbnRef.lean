/- The document's answer for go-back-N: contracts of in, Ahead and Gbn. No statement is proved here. -/
import Derived.Test.YtainefacghlmjaaDoorGbn2
import Derived.Test.YtainefacghlmjaaDoorSent
namespace Go.Proofs.YtainefacghlmjaaDoor.Gbn
open Go.ChangeShapes Go.WideShapes Go.ChangeAt Go.RowKit Go.Proofs.YtainefacghlmjaaDoor.Kit Go.Proofs.YtainefacghlmjaaDoor.App Go.Proofs.YtainefacghlmjaaDoor.Cells Go.Proofs.YtainefacghlmjaaDoor.Fate Go.Proofs.YtainefacghlmjaaDoor.Abp Go.Proofs.YtainefacghlmjaaDoor.GbnMath
set_option linter.unusedVariables false
set_option maxRecDepth 20000

theorem in_yes (n a b : Int) (w : World) (h : a ≤ n ∧ n ≤ b) : Calls Tryd.prog 11 #[.int .i64 n, .int .i64 a, .int .i64 b] w fun e w' => e = .returned (.bool true) ∧ w = w' := by
  obtain ⟨h1, h2⟩ := h
  have t1 : decide (a ≤ n) = true := decide_eq_true h1
  have t2 : decide (n ≤ b) = true := decide_eq_true h2
  go_enter Tryd.func11, Tryd.ntmps11
  go_wp2
  go_ret
  exact ⟨rfl, rfl⟩
theorem in_no (n a b : Int) (w : World) (h : ¬ (a ≤ n ∧ n ≤ b)) : Calls Tryd.prog 11 #[.int .i64 n, .int .i64 a, .int .i64 b] w fun e w' => e = .returned (.bool false) ∧ w = w' := by
  by_cases h1 : a ≤ n
  · have h2 : ¬ n ≤ b := fun h2 => h ⟨h1, h2⟩
    clear h
    have t1 : decide (a ≤ n) = true := decide_eq_true h1
    have t2 : decide (n ≤ b) = false := decide_eq_false h2
    go_enter Tryd.func11, Tryd.ntmps11
    go_wp2
    go_ret
    exact ⟨rfl, rfl⟩
  · clear h
    have t1 : decide (a ≤ n) = false := decide_eq_false h1
    go_enter Tryd.func11, Tryd.ntmps11
    go_wp2
    go_ret
    exact ⟨rfl, rfl⟩
set_option maxHeartbeats 1000000 in
theorem ahead_any (p q : Option Addr) (cap cq n m : Nat) (l : List Int) (W R : Int) (w : World) (hn : n = l.length) (hi : Ints w p cap l) (hm : m ≤ 9223372036854775807) (c : Int) (hc : c = badG l W R m) :
    Calls Tryd.prog 4 #[.slice p n cap, .int .i64 W, .int .i64 R, .slice q m cq] w fun e w' => e = .returned (.int .i64 c) ∧ w' = w := by
  obtain ⟨c0, hc0⟩ : ∃ c0, c0 = bad l m := ⟨_, rfl⟩
  have SE := Lib.hid (sent_any p q cap cq n m l w hn hi hm c0 hc0)
  unfold badG at hc
  rw [← hc0] at hc
  clear hc0 hi hn
  by_cases h0 : c0 = 0
  · subst h0
    rw [if_neg (by simp)] at hc
    by_cases h1 : 1 ≤ W ∧ W ≤ 8
    · have IW := Lib.hid (fun w' => in_yes W 1 8 w' h1)
      by_cases h2 : 2 ≤ R ∧ R ≤ 16
      · have IR := Lib.hid (fun w' => in_yes R 2 16 w' h2)
        rw [if_pos (by omega)] at hc
        clear h1 h2
        subst hc
        go_enter Tryd.func4, Tryd.ntmps4
        go_wp2_with fail
        refine SE.out.mono ?_; rintro e w1 ⟨rfl, rfl⟩
        go_wp2_with fail
        refine (IW.out _).mono ?_; rintro e w2 ⟨rfl, rfl⟩
        go_wp2_with fail
        refine (IR.out _).mono ?_; rintro e w3 ⟨rfl, rfl⟩
        go_wp2_with fail
        go_ret
        exact ⟨rfl, rfl⟩
      · have IR := Lib.hid (fun w' => in_no R 2 16 w' h2)
        rw [if_neg (by omega)] at hc
        clear h1 h2
        subst hc
        go_enter Tryd.func4, Tryd.ntmps4
        go_wp2_with fail
        refine SE.out.mono ?_; rintro e w1 ⟨rfl, rfl⟩
        go_wp2_with fail
        refine (IW.out _).mono ?_; rintro e w2 ⟨rfl, rfl⟩
        go_wp2_with fail
        refine (IR.out _).mono ?_; rintro e w3 ⟨rfl, rfl⟩
        go_wp2_with fail
        go_ret
        exact ⟨rfl, rfl⟩
    · have IW := Lib.hid (fun w' => in_no W 1 8 w' h1)
      rw [if_neg (by omega)] at hc
      clear h1
      subst hc
      go_enter Tryd.func4, Tryd.ntmps4
      go_wp2_with fail
      refine SE.out.mono ?_; rintro e w1 ⟨rfl, rfl⟩
      go_wp2_with fail
      refine (IW.out _).mono ?_; rintro e w2 ⟨rfl, rfl⟩
      go_wp2_with fail
      go_ret
      exact ⟨rfl, rfl⟩
  · rw [if_pos h0] at hc
    have t0 : (c0 == 0) = false := by rw [beq_eq_false_iff_ne]; exact h0
    subst hc
    go_enter Tryd.func4, Tryd.ntmps4
    go_wp2_with fail
    refine SE.out.mono ?_; rintro e w1 ⟨rfl, rfl⟩
    go_wp2_with fail
    go_ret
    exact ⟨rfl, rfl⟩
theorem step_end {k c R d : Nat} (h : k ≤ c) (hd : far R k c = d) : (k + d) % R = c % R := by
  rw [← hd]; unfold far
  rw [Nat.add_mod, Nat.mod_mod, ← Nat.add_mod, show k + (c - k) = c by omega]
theorem step_on {k c R d j : Nat} (h : k ≤ c) (hd : far R k c = d) (hj : j < d) : (k + j) % R ≠ c % R := by
  intro e
  have h1 : d ≤ c - k := by rw [← hd]; exact Nat.mod_le _ _
  have h2 := Nat.sub_mod_eq_zero_of_mod_eq e.symm
  have h3 : (c - k) % R = j % R := by
    rw [show c - k = (c - (k + j)) + j by omega, Nat.add_mod, h2, Nat.zero_add, Nat.mod_mod]
  have h4 : (c - k) % R = d := hd
  have h5 := Nat.mod_le j R
  omega
theorem step_end_i {k c R d : Nat} (h : k ≤ c) (hd : far R k c = d) : (((k : Int) + (d : Int)).tmod (R : Int) != (c : Int).tmod (R : Int)) = false ∧ (((k : Int) + (d : Int)) % (R : Int) != (c : Int) % (R : Int)) = false := by
  have h1 := step_end h hd
  have e : (k : Int) + (d : Int) = ((k + d : Nat) : Int) := by omega
  rw [e, tmod_nat, tmod_nat, emod_nat, emod_nat, h1]
  simp
theorem step_on_i {k c R d j : Nat} (h : k ≤ c) (hd : far R k c = d) (hj : j < d) : (((k : Int) + (j : Int)).tmod (R : Int) != (c : Int).tmod (R : Int)) = true ∧ (((k : Int) + (j : Int)) % (R : Int) != (c : Int) % (R : Int)) = true := by
  have h1 := step_on h hd hj
  have e : (k : Int) + (j : Int) = ((k + j : Nat) : Int) := by omega
  rw [e, tmod_nat, tmod_nat, emod_nat, emod_nat, bne_iff_ne]
  exact ⟨fun h => h1 (by omega), fun h => h1 (by omega)⟩
set_option maxHeartbeats 8000000 in
theorem ref_gbn (p q : Option Addr) (cap cq n m W R : Nat) (l : List Int) (fs : List Fat) (w : World) (hn : n = l.length) (hm : m = fs.length) (hi : Ints w p cap l) (hf : CI lay w q cq fs) (h0 : badG l W R m = 0) (K : Nat) (G : List Int) (hr : GbnMath.run l W R fs 0 0 [] = (K, G)) :
    Calls Tryd.prog 7 #[.slice p n cap, .int .i64 W, .int .i64 R, .slice q m cq] w fun e w' => ∃ v, e = .returned (.tuple #[v, .int .i64 (K : Nat)]) ∧ OwnI w' w.heap.size v G ∧ Below w.heap.size w w' := by
  obtain ⟨hb0, hW1, hW8, hR2, hR16⟩ := (badG_zero l W R m).1 h0
  have hW1 : 1 ≤ W := by omega
  have hW8 : W ≤ 8 := by omega
  have hR2 : 2 ≤ R := by omega
  have hR16 : R ≤ 16 := by omega
  have hRz : R ≠ 0 := by omega
  have hRzi : (R : Int) ≠ 0 := by omega
  obtain ⟨hl20, hm200, hfit⟩ := (bad_zero l m).1 hb0
  rw [← hn] at hl20
  have HI := Lib.hid hi
  have HF := Lib.hid hf
  have HN := Lib.hid hn
  have HM := Lib.hid hm
  have R0 := Lib.hid (show GbnMath.run l W R (fs.drop 0) 0 0 [] = (K, G) from hr)
  clear hi hf hn hm hr h0 hfit hb0
  go_enter Tryd.func7, Tryd.ntmps7
  go_wp2_with fail
  go_loopw [10, 11, 12, 13] (fun gv kv nv iv wr => ∃ (i k nx c : Nat) (g : List Int), i ≤ m ∧ k ≤ n ∧ k ≤ nx ∧ nx ≤ n ∧ nx ≤ k + W ∧ k ≤ c ∧ c ≤ i ∧ kv = .int .i64 k ∧ nv = .int .i64 nx ∧ iv = .int .i64 i ∧ Hid (g.length = c) ∧ OwnI wr w.heap.size gv g ∧ Hid (GbnMath.run l W R (fs.drop i) k nx g = (K, G)) ∧ Below w.heap.size w wr) (fun _ _ _ iv _ => m - (intOf iv).toNat)
  case atStart => exact ⟨0, 0, 0, 0, [], Nat.zero_le _, Nat.zero_le _, Nat.le_refl _, Nat.zero_le _, Nat.zero_le _, Nat.le_refl _, Nat.le_refl _, rfl, rfl, rfl, rfl, OwnI.nil _ _, R0.out, brefl _⟩
  case round =>
    obtain ⟨i, k, nx, c, g, him, hkn, hknx, hnxn, hnxw, hkc, hci, rfl, rfl, rfl, HC, hown, HRUN, hB⟩ := hrel
    have hBs := hB.size
    obtain ⟨vp, vc, rfl, hvi⟩ := hown.form
    rw [HC.out] at hown ⊢
    clear hvi
    by_cases hlt : i < m
    · have hil : i < fs.length := by rw [← HM.out]; exact hlt
      obtain ⟨b, off, rfl, hbw, hcell⟩ := fate_at HF.out (by omega)
      obtain ⟨x, hx⟩ : ∃ x, fs[i]? = some x := ⟨_, List.getElem?_eq_getElem hil⟩
      have HCELL := Lib.hid (fun W' (hb : Below w.heap.size w W') => hcell W' hb i x hx)
      obtain ⟨e1, e2⟩ := hcell wr hB i x hx
      have HD := Lib.hid (show GbnMath.run l W R (x :: fs.drop (i + 1)) k nx g = (K, G) by rw [← AbpMath.drop_at hx]; exact HRUN.out)
      clear hcell hx hil HRUN
      by_cases hk : k = n
      · have HE := Lib.hid (show (n, g) = (K, G) by rw [← HD.out, GbnMath.run_end _ _ _ _ _ _ _ (by rw [← HN.out]; exact hk), hk])
        have t0 : decide ((k : Int) < (n : Int)) = false := decide_eq_false (by omega)
        clear HD
        obtain ⟨x1, x2⟩ := x
        have HOW := Lib.hid hown
        clear hown
        subst hk
        go_wp2_with fail
        go_ret2
        refine ⟨_, by rw [← (Prod.mk.inj HE.out).1]; rfl, ?_, hB⟩
        rw [← (Prod.mk.inj HE.out).2]; exact HOW.out
      · have t0 : decide ((k : Int) < (n : Int)) = true := decide_eq_true (by omega)
        have HKN := Lib.hid (show k ≠ l.length by rw [← HN.out]; exact hk)
        have hkn' : k < n := by omega
        clear hk hkn
        obtain ⟨x1, x2⟩ := x
        by_cases ha : nx = k + W
        · have a1 : decide ((nx : Int) ≥ (k : Int) + (W : Int)) = true := decide_eq_true (by omega)
          have a1n : decide (k + W ≤ nx) = true := decide_eq_true (by omega)
          have hs : GbnMath.sent n W k nx = k := by unfold GbnMath.sent; rw [if_pos (.inl ha)]
          have hsn : k < n := by omega
          have hsw : k < k + W := by omega
          have hsk : k ≤ k := by omega
          have HS := Lib.hid (show GbnMath.sent l.length W k nx = k by rw [← HN.out]; exact hs)
          clear hs
          cases x1 with
          | true =>
            have HD2 := Lib.hid (show GbnMath.run l W R (fs.drop (i + 1)) k (k + 1) g = (K, G) by rw [← GbnMath.run_lost (f := ⟨true, x2⟩) HKN.out HS.out rfl]; exact HD.out)
            clear HD HKN
            -- aL
            go_wp2_with fail
            go_roundw
            case rel => exact ⟨i + 1, k, k + 1, c, g, by omega, by omega, by omega, by omega, by omega, hkc, by omega, by first | rfl | go_num, by first | rfl | go_num, by first | rfl | go_num, HC.out, hown, HD2.out, hB⟩
            case measure => simp [intOf]; omega
          | false =>
            obtain ⟨b1, off1, rfl, hb1w, hc1⟩ := HI.out.2.2.2 (by rw [← HN.out]; omega)
            have hd := hc1 k (by rw [← HN.out]; exact hsn)
            have hxk := (hB.cell (p := ⟨b1, off1 + k, none⟩) hb1w).trans hd
            have hxw := HI.out.2.2.1 k
            obtain ⟨y, hy⟩ : ∃ y, l[k]?.getD 0 = y := ⟨_, rfl⟩
            rw [hy] at hxk hxw
            have HY := Lib.hid hy
            clear hc1 hd hy
            by_cases hm : k % R = c % R
            · have t1 := tmod_eq hm
              have t1e := emod_eq hm
              have HP := Lib.hid (show GbnMath.put l R k g = g ++ [y] by rw [← HY.out]; exact GbnMath.put_yes (by rw [HC.out]; exact hm))
              have HL := Lib.hid (show (g ++ [y]).length = c + 1 by rw [List.length_append, HC.out]; rfl)
              clear hm
              cases x2 with
              | true =>
                have HD2 := Lib.hid (show GbnMath.run l W R (fs.drop (i + 1)) k (k + 1) (g ++ [y]) = (K, G) by rw [← GbnMath.run_back (f := ⟨false, true⟩) HKN.out HS.out rfl rfl HP.out]; exact HD.out)
                clear HD HKN
                -- aYB
                go_wp2_with fail
                go_quiet (fail)
                go_wp2_with (at_builtin
                             refine wp_app rfl (.tmp 56) (.tmp 61) rfl w.heap.size _ g (some ⟨wr.heap.size, 0, none⟩) 1 1 [y] rfl ((own_drewN hown _).alloc _) rfl rfl (Ints.one (wr.drewN nq) y hxw) (by rw [List.length_singleton, HC.out]; omega) (Nat.le_trans hBs (by simp)) ?_
                             intro v1 wa hown1 hg1 hat1
                             have hb1 : Below w.heap.size w wa := below_app (balloc (below_drewN hB _) _) ((own_drewN hown _).alloc _) hg1 (Nat.le_trans hBs (by simp))
                             have f2 : wa.cell? ⟨b, off + i * 2 + 1, none⟩ = some (.bool true) := (HCELL.out wa hb1).2
                             clear hat1 hg1
                             obtain ⟨vp1, vc1, rfl, hvi1⟩ := hown1.form
                             rw [HL.out] at hown1 ⊢
                             clear hvi1)
                go_roundw
                case rel => exact ⟨i + 1, k, k + 1, c + 1, g ++ [y], by omega, by omega, by omega, by omega, by omega, by omega, by omega, by first | rfl | go_num, by first | rfl | go_num, by first | rfl | go_num, HL.out, hown1, HD2.out, hb1⟩
                case measure => simp [intOf]; omega
              | false =>
                -- aYF
                obtain ⟨d, hd⟩ : ∃ d, GbnMath.far R k (c + 1) = d := ⟨_, rfl⟩
                have hdk : k + d ≤ c + 1 := by rw [← hd]; unfold GbnMath.far; have := Nat.mod_le (c + 1 - k) R; omega
                have HDD := Lib.hid (show GbnMath.far R k (g ++ [y]).length = d by rw [HL.out]; exact hd)
                have HDF := Lib.hid hd
                clear hd
                go_wp2_with fail
                go_quiet (fail)
                go_wp2_with (at_builtin
                             refine wp_app rfl (.tmp 56) (.tmp 61) rfl w.heap.size _ g (some ⟨wr.heap.size, 0, none⟩) 1 1 [y] rfl ((own_drewN hown _).alloc _) rfl rfl (Ints.one (wr.drewN nq) y hxw) (by rw [List.length_singleton, HC.out]; omega) (Nat.le_trans hBs (by simp)) ?_
                             intro v1 wa hown1 hg1 hat1
                             have hb1 : Below w.heap.size w wa := below_app (balloc (below_drewN hB _) _) ((own_drewN hown _).alloc _) hg1 (Nat.le_trans hBs (by simp))
                             have f2 : wa.cell? ⟨b, off + i * 2 + 1, none⟩ = some (.bool false) := (HCELL.out wa hb1).2
                             clear hat1 hg1
                             obtain ⟨vp1, vc1, rfl, hvi1⟩ := hown1.form
                             rw [HL.out] at hown1 ⊢
                             clear hvi1)
                obtain ⟨wz, rfl⟩ : ∃ z, z = wr := ⟨wr, rfl⟩
                go_loopw [15] (fun dv wr => ∃ j : Nat, j ≤ d ∧ dv = .int .i64 j ∧ OwnI wr w.heap.size (.slice vp1 (c + 1) vc1) (g ++ [y]) ∧ Below w.heap.size w wr) (fun dv _ => d - (intOf dv).toNat)
                case atStart => exact ⟨0, Nat.zero_le _, rfl, hown1, hb1⟩
                case round =>
                  obtain ⟨j, hjd, rfl, hown2, hB2⟩ := hrel
                  by_cases hj : j < d
                  · obtain ⟨q1, q2⟩ := step_on_i (by omega) HDF.out hj
                    rw [show ((c + 1 : Nat) : Int) = (c : Int) + 1 by omega] at q1 q2
                    go_wp2_with fail
                    go_quiet (fail)
                    go_wp2_with fail
                    go_roundw
                    case rel => exact ⟨j + 1, by omega, by first | rfl | go_num, own_drewN hown2 _, below_drewN hB2 _⟩
                    case measure => simp [intOf]; omega
                  · obtain rfl : j = d := by omega
                    obtain ⟨q1, q2⟩ := step_end_i (by omega) HDF.out
                    rw [show ((c + 1 : Nat) : Int) = (c : Int) + 1 by omega] at q1 q2
                    clear hj hjd
                    by_cases hdw : j ≤ W
                    · have d1 : decide ((j : Int) ≤ (W : Int)) = true := decide_eq_true (by omega)
                      by_cases hdn : j ≤ n - k
                      · have d2 : decide ((k : Int) + (j : Int) ≤ (n : Int)) = true := decide_eq_true (by omega)
                        have d2n : decide (k + j ≤ n) = true := decide_eq_true (by omega)
                        by_cases hmx : k + j ≤ k + 1
                        · have HD2 := Lib.hid (show GbnMath.run l W R (fs.drop (i + 1)) (k + j) (k + 1) (g ++ [y]) = (K, G) by
                            have h := GbnMath.run_fine (l := l) (W := W) (R := R) (fs := fs.drop (i + 1)) (f := ⟨false, false⟩) HKN.out HS.out rfl rfl HP.out HDD.out hdw (by rw [← HN.out]; exact hdn)
                            rw [Nat.max_eq_left hmx] at h
                            rw [← h]; exact HD.out)
                          have m1 : decide ((k : Int) + 1 < (k : Int) + (j : Int)) = false := decide_eq_false (by omega)
                          have m1n : decide (k + 1 < k + j) = false := decide_eq_false (by omega)
                          have m2 : decide (1 < (j : Int)) = false := decide_eq_false (by omega)
                          have m2n : decide (1 < j) = false := decide_eq_false (by omega)
                          clear HD HKN
                          go_wp2_with fail
                          go_quiet (fail)
                          go_wp2_with fail
                          go_roundw
                          case rel => exact ⟨i + 1, k + j, k + 1, c + 1, g ++ [y], by omega, by omega, by omega, by omega, by omega, by omega, by omega, by first | rfl | go_num, by first | rfl | go_num, by first | rfl | go_num, HL.out, own_drewN hown2 _, HD2.out, below_drewN hB2 _⟩
                          case measure => simp [intOf]; omega
                        · have HD2 := Lib.hid (show GbnMath.run l W R (fs.drop (i + 1)) (k + j) (k + j) (g ++ [y]) = (K, G) by
                            have h := GbnMath.run_fine (l := l) (W := W) (R := R) (fs := fs.drop (i + 1)) (f := ⟨false, false⟩) HKN.out HS.out rfl rfl HP.out HDD.out hdw (by rw [← HN.out]; exact hdn)
                            rw [Nat.max_eq_right (by omega)] at h
                            rw [← h]; exact HD.out)
                          have m1 : decide ((k : Int) + 1 < (k : Int) + (j : Int)) = true := decide_eq_true (by omega)
                          have m1n : decide (k + 1 < k + j) = true := decide_eq_true (by omega)
                          have m2 : decide (1 < (j : Int)) = true := decide_eq_true (by omega)
                          have m2n : decide (1 < j) = true := decide_eq_true (by omega)
                          clear HD HKN
                          go_wp2_with fail
                          go_quiet (fail)
                          go_wp2_with fail
                          go_roundw
                          case rel => exact ⟨i + 1, k + j, k + j, c + 1, g ++ [y], by omega, by omega, by omega, by omega, by omega, by omega, by omega, by first | rfl | go_num, by first | rfl | go_num, by first | rfl | go_num, HL.out, own_drewN hown2 _, HD2.out, below_drewN hB2 _⟩
                          case measure => simp [intOf]; omega
                      · have d2 : decide ((k : Int) + (j : Int) ≤ (n : Int)) = false := decide_eq_false (by omega)
                        have d2n : decide (k + j ≤ n) = false := decide_eq_false (by omega)
                        have HD2 := Lib.hid (show GbnMath.run l W R (fs.drop (i + 1)) k (k + 1) (g ++ [y]) = (K, G) by rw [← GbnMath.run_far (f := ⟨false, false⟩) HKN.out HS.out rfl rfl HP.out HDD.out (by rw [← HN.out]; omega)]; exact HD.out)
                        clear HD HKN hdn
                        go_wp2_with fail
                        go_quiet (fail)
                        go_wp2_with fail
                        go_roundw
                        case rel => exact ⟨i + 1, k, k + 1, c + 1, g ++ [y], by omega, by omega, by omega, by omega, by omega, by omega, by omega, by first | rfl | go_num, by first | rfl | go_num, by first | rfl | go_num, HL.out, own_drewN hown2 _, HD2.out, below_drewN hB2 _⟩
                        case measure => simp [intOf]; omega
                    · have d1 : decide ((j : Int) ≤ (W : Int)) = false := decide_eq_false (by omega)
                      have HD2 := Lib.hid (show GbnMath.run l W R (fs.drop (i + 1)) k (k + 1) (g ++ [y]) = (K, G) by rw [← GbnMath.run_far (f := ⟨false, false⟩) HKN.out HS.out rfl rfl HP.out HDD.out (by omega)]; exact HD.out)
                      clear HD HKN
                      go_wp2_with fail
                      go_quiet (fail)
                      go_wp2_with fail
                      go_roundw
                      case rel => exact ⟨i + 1, k, k + 1, c + 1, g ++ [y], by omega, by omega, by omega, by omega, by omega, by omega, by omega, by first | rfl | go_num, by first | rfl | go_num, by first | rfl | go_num, HL.out, own_drewN hown2 _, HD2.out, below_drewN hB2 _⟩
                      case measure => simp [intOf]; omega
            · have t1 := tmod_ne hm
              have t1e := emod_ne hm
              have HP := Lib.hid (show GbnMath.put l R k g = g from GbnMath.put_no (by rw [HC.out]; exact hm))
              clear hm hxk hxw HY
              cases x2 with
              | true =>
                have HD2 := Lib.hid (show GbnMath.run l W R (fs.drop (i + 1)) k (k + 1) g = (K, G) by rw [← GbnMath.run_back (f := ⟨false, true⟩) HKN.out HS.out rfl rfl HP.out]; exact HD.out)
                clear HD HKN
                -- aNB
                go_wp2_with fail
                go_quiet (fail)
                go_wp2_with fail
                go_roundw
                case rel => exact ⟨i + 1, k, k + 1, c, g, by omega, by omega, by omega, by omega, by omega, by omega, by omega, by first | rfl | go_num, by first | rfl | go_num, by first | rfl | go_num, HC.out, own_drewN hown _, HD2.out, below_drewN hB _⟩
                case measure => simp [intOf]; omega
              | false =>
                -- aNF
                obtain ⟨d, hd⟩ : ∃ d, GbnMath.far R k (c) = d := ⟨_, rfl⟩
                have hdk : k + d ≤ c := by rw [← hd]; unfold GbnMath.far; have := Nat.mod_le (c - k) R; omega
                have HDD := Lib.hid (show GbnMath.far R k (g).length = d by rw [HC.out]; exact hd)
                have HDF := Lib.hid hd
                clear hd
                go_wp2_with fail
                go_quiet (fail)
                go_wp2_with fail
                obtain ⟨wz, rfl⟩ : ∃ z, z = wr := ⟨wr, rfl⟩
                go_loopw [15] (fun dv wr => ∃ j : Nat, j ≤ d ∧ dv = .int .i64 j ∧ OwnI wr w.heap.size (.slice vp c vc) (g) ∧ Below w.heap.size w wr) (fun dv _ => d - (intOf dv).toNat)
                case atStart => exact ⟨0, Nat.zero_le _, rfl, (own_drewN hown _), (below_drewN hB _)⟩
                case round =>
                  obtain ⟨j, hjd, rfl, hown2, hB2⟩ := hrel
                  by_cases hj : j < d
                  · obtain ⟨q1, q2⟩ := step_on_i (by omega) HDF.out hj
                    go_wp2_with fail
                    go_quiet (fail)
                    go_wp2_with fail
                    go_roundw
                    case rel => exact ⟨j + 1, by omega, by first | rfl | go_num, own_drewN hown2 _, below_drewN hB2 _⟩
                    case measure => simp [intOf]; omega
                  · obtain rfl : j = d := by omega
                    obtain ⟨q1, q2⟩ := step_end_i (by omega) HDF.out
                    clear hj hjd
                    by_cases hdw : j ≤ W
                    · have d1 : decide ((j : Int) ≤ (W : Int)) = true := decide_eq_true (by omega)
                      by_cases hdn : j ≤ n - k
                      · have d2 : decide ((k : Int) + (j : Int) ≤ (n : Int)) = true := decide_eq_true (by omega)
                        have d2n : decide (k + j ≤ n) = true := decide_eq_true (by omega)
                        by_cases hmx : k + j ≤ k + 1
                        · have HD2 := Lib.hid (show GbnMath.run l W R (fs.drop (i + 1)) (k + j) (k + 1) (g) = (K, G) by
                            have h := GbnMath.run_fine (l := l) (W := W) (R := R) (fs := fs.drop (i + 1)) (f := ⟨false, false⟩) HKN.out HS.out rfl rfl HP.out HDD.out hdw (by rw [← HN.out]; exact hdn)
                            rw [Nat.max_eq_left hmx] at h
                            rw [← h]; exact HD.out)
                          have m1 : decide ((k : Int) + 1 < (k : Int) + (j : Int)) = false := decide_eq_false (by omega)
                          have m1n : decide (k + 1 < k + j) = false := decide_eq_false (by omega)
                          have m2 : decide (1 < (j : Int)) = false := decide_eq_false (by omega)
                          have m2n : decide (1 < j) = false := decide_eq_false (by omega)
                          clear HD HKN
                          go_wp2_with fail
                          go_quiet (fail)
                          go_wp2_with fail
                          go_roundw
                          case rel => exact ⟨i + 1, k + j, k + 1, c, g, by omega, by omega, by omega, by omega, by omega, by omega, by omega, by first | rfl | go_num, by first | rfl | go_num, by first | rfl | go_num, HC.out, own_drewN hown2 _, HD2.out, below_drewN hB2 _⟩
                          case measure => simp [intOf]; omega
                        · have HD2 := Lib.hid (show GbnMath.run l W R (fs.drop (i + 1)) (k + j) (k + j) (g) = (K, G) by
                            have h := GbnMath.run_fine (l := l) (W := W) (R := R) (fs := fs.drop (i + 1)) (f := ⟨false, false⟩) HKN.out HS.out rfl rfl HP.out HDD.out hdw (by rw [← HN.out]; exact hdn)
                            rw [Nat.max_eq_right (by omega)] at h
                            rw [← h]; exact HD.out)
                          have m1 : decide ((k : Int) + 1 < (k : Int) + (j : Int)) = true := decide_eq_true (by omega)
                          have m1n : decide (k + 1 < k + j) = true := decide_eq_true (by omega)
                          have m2 : decide (1 < (j : Int)) = true := decide_eq_true (by omega)
                          have m2n : decide (1 < j) = true := decide_eq_true (by omega)
                          clear HD HKN
                          go_wp2_with fail
                          go_quiet (fail)
                          go_wp2_with fail
                          go_roundw
                          case rel => exact ⟨i + 1, k + j, k + j, c, g, by omega, by omega, by omega, by omega, by omega, by omega, by omega, by first | rfl | go_num, by first | rfl | go_num, by first | rfl | go_num, HC.out, own_drewN hown2 _, HD2.out, below_drewN hB2 _⟩
                          case measure => simp [intOf]; omega
                      · have d2 : decide ((k : Int) + (j : Int) ≤ (n : Int)) = false := decide_eq_false (by omega)
                        have d2n : decide (k + j ≤ n) = false := decide_eq_false (by omega)
                        have HD2 := Lib.hid (show GbnMath.run l W R (fs.drop (i + 1)) k (k + 1) (g) = (K, G) by rw [← GbnMath.run_far (f := ⟨false, false⟩) HKN.out HS.out rfl rfl HP.out HDD.out (by rw [← HN.out]; omega)]; exact HD.out)
                        clear HD HKN hdn
                        go_wp2_with fail
                        go_quiet (fail)
                        go_wp2_with fail
                        go_roundw
                        case rel => exact ⟨i + 1, k, k + 1, c, g, by omega, by omega, by omega, by omega, by omega, by omega, by omega, by first | rfl | go_num, by first | rfl | go_num, by first | rfl | go_num, HC.out, own_drewN hown2 _, HD2.out, below_drewN hB2 _⟩
                        case measure => simp [intOf]; omega
                    · have d1 : decide ((j : Int) ≤ (W : Int)) = false := decide_eq_false (by omega)
                      have HD2 := Lib.hid (show GbnMath.run l W R (fs.drop (i + 1)) k (k + 1) (g) = (K, G) by rw [← GbnMath.run_far (f := ⟨false, false⟩) HKN.out HS.out rfl rfl HP.out HDD.out (by omega)]; exact HD.out)
                      clear HD HKN
                      go_wp2_with fail
                      go_quiet (fail)
                      go_wp2_with fail
                      go_roundw
                      case rel => exact ⟨i + 1, k, k + 1, c, g, by omega, by omega, by omega, by omega, by omega, by omega, by omega, by first | rfl | go_num, by first | rfl | go_num, by first | rfl | go_num, HC.out, own_drewN hown2 _, HD2.out, below_drewN hB2 _⟩
                      case measure => simp [intOf]; omega
        · have a1 : decide ((nx : Int) ≥ (k : Int) + (W : Int)) = false := decide_eq_false (by omega)
          have a1n : decide (k + W ≤ nx) = false := decide_eq_false (by omega)
          by_cases hb : nx = n
          · have a2 : decide ((nx : Int) ≥ (n : Int)) = true := decide_eq_true (by omega)
            have hs : GbnMath.sent n W k nx = k := by unfold GbnMath.sent; rw [if_pos (.inr hb)]
            have hsn : k < n := by omega
            have hsw : k < k + W := by omega
            have hsk : k ≤ k := by omega
            have HS := Lib.hid (show GbnMath.sent l.length W k nx = k by rw [← HN.out]; exact hs)
            clear hs
            cases x1 with
            | true =>
              have HD2 := Lib.hid (show GbnMath.run l W R (fs.drop (i + 1)) k (k + 1) g = (K, G) by rw [← GbnMath.run_lost (f := ⟨true, x2⟩) HKN.out HS.out rfl]; exact HD.out)
              clear HD HKN
              -- bL
              go_wp2_with fail
              go_roundw
              case rel => exact ⟨i + 1, k, k + 1, c, g, by omega, by omega, by omega, by omega, by omega, hkc, by omega, by first | rfl | go_num, by first | rfl | go_num, by first | rfl | go_num, HC.out, hown, HD2.out, hB⟩
              case measure => simp [intOf]; omega
            | false =>
              obtain ⟨b1, off1, rfl, hb1w, hc1⟩ := HI.out.2.2.2 (by rw [← HN.out]; omega)
              have hd := hc1 k (by rw [← HN.out]; exact hsn)
              have hxk := (hB.cell (p := ⟨b1, off1 + k, none⟩) hb1w).trans hd
              have hxw := HI.out.2.2.1 k
              obtain ⟨y, hy⟩ : ∃ y, l[k]?.getD 0 = y := ⟨_, rfl⟩
              rw [hy] at hxk hxw
              have HY := Lib.hid hy
              clear hc1 hd hy
              by_cases hm : k % R = c % R
              · have t1 := tmod_eq hm
                have t1e := emod_eq hm
                have HP := Lib.hid (show GbnMath.put l R k g = g ++ [y] by rw [← HY.out]; exact GbnMath.put_yes (by rw [HC.out]; exact hm))
                have HL := Lib.hid (show (g ++ [y]).length = c + 1 by rw [List.length_append, HC.out]; rfl)
                clear hm
                cases x2 with
                | true =>
                  have HD2 := Lib.hid (show GbnMath.run l W R (fs.drop (i + 1)) k (k + 1) (g ++ [y]) = (K, G) by rw [← GbnMath.run_back (f := ⟨false, true⟩) HKN.out HS.out rfl rfl HP.out]; exact HD.out)
                  clear HD HKN
                  -- bYB
                  go_wp2_with fail
                  go_quiet (fail)
                  go_wp2_with (at_builtin
                               refine wp_app rfl (.tmp 56) (.tmp 61) rfl w.heap.size _ g (some ⟨wr.heap.size, 0, none⟩) 1 1 [y] rfl ((own_drewN hown _).alloc _) rfl rfl (Ints.one (wr.drewN nq) y hxw) (by rw [List.length_singleton, HC.out]; omega) (Nat.le_trans hBs (by simp)) ?_
                               intro v1 wa hown1 hg1 hat1
                               have hb1 : Below w.heap.size w wa := below_app (balloc (below_drewN hB _) _) ((own_drewN hown _).alloc _) hg1 (Nat.le_trans hBs (by simp))
                               have f2 : wa.cell? ⟨b, off + i * 2 + 1, none⟩ = some (.bool true) := (HCELL.out wa hb1).2
                               clear hat1 hg1
                               obtain ⟨vp1, vc1, rfl, hvi1⟩ := hown1.form
                               rw [HL.out] at hown1 ⊢
                               clear hvi1)
                  go_roundw
                  case rel => exact ⟨i + 1, k, k + 1, c + 1, g ++ [y], by omega, by omega, by omega, by omega, by omega, by omega, by omega, by first | rfl | go_num, by first | rfl | go_num, by first | rfl | go_num, HL.out, hown1, HD2.out, hb1⟩
                  case measure => simp [intOf]; omega
                | false =>
                  -- bYF
                  obtain ⟨d, hd⟩ : ∃ d, GbnMath.far R k (c + 1) = d := ⟨_, rfl⟩
                  have hdk : k + d ≤ c + 1 := by rw [← hd]; unfold GbnMath.far; have := Nat.mod_le (c + 1 - k) R; omega
                  have HDD := Lib.hid (show GbnMath.far R k (g ++ [y]).length = d by rw [HL.out]; exact hd)
                  have HDF := Lib.hid hd
                  clear hd
                  go_wp2_with fail
                  go_quiet (fail)
                  go_wp2_with (at_builtin
                               refine wp_app rfl (.tmp 56) (.tmp 61) rfl w.heap.size _ g (some ⟨wr.heap.size, 0, none⟩) 1 1 [y] rfl ((own_drewN hown _).alloc _) rfl rfl (Ints.one (wr.drewN nq) y hxw) (by rw [List.length_singleton, HC.out]; omega) (Nat.le_trans hBs (by simp)) ?_
                               intro v1 wa hown1 hg1 hat1
                               have hb1 : Below w.heap.size w wa := below_app (balloc (below_drewN hB _) _) ((own_drewN hown _).alloc _) hg1 (Nat.le_trans hBs (by simp))
                               have f2 : wa.cell? ⟨b, off + i * 2 + 1, none⟩ = some (.bool false) := (HCELL.out wa hb1).2
                               clear hat1 hg1
                               obtain ⟨vp1, vc1, rfl, hvi1⟩ := hown1.form
                               rw [HL.out] at hown1 ⊢
                               clear hvi1)
                  obtain ⟨wz, rfl⟩ : ∃ z, z = wr := ⟨wr, rfl⟩
                  go_loopw [15] (fun dv wr => ∃ j : Nat, j ≤ d ∧ dv = .int .i64 j ∧ OwnI wr w.heap.size (.slice vp1 (c + 1) vc1) (g ++ [y]) ∧ Below w.heap.size w wr) (fun dv _ => d - (intOf dv).toNat)
                  case atStart => exact ⟨0, Nat.zero_le _, rfl, hown1, hb1⟩
                  case round =>
                    obtain ⟨j, hjd, rfl, hown2, hB2⟩ := hrel
                    by_cases hj : j < d
                    · obtain ⟨q1, q2⟩ := step_on_i (by omega) HDF.out hj
                      rw [show ((c + 1 : Nat) : Int) = (c : Int) + 1 by omega] at q1 q2
                      go_wp2_with fail
                      go_quiet (fail)
                      go_wp2_with fail
                      go_roundw
                      case rel => exact ⟨j + 1, by omega, by first | rfl | go_num, own_drewN hown2 _, below_drewN hB2 _⟩
                      case measure => simp [intOf]; omega
                    · obtain rfl : j = d := by omega
                      obtain ⟨q1, q2⟩ := step_end_i (by omega) HDF.out
                      rw [show ((c + 1 : Nat) : Int) = (c : Int) + 1 by omega] at q1 q2
                      clear hj hjd
                      by_cases hdw : j ≤ W
                      · have d1 : decide ((j : Int) ≤ (W : Int)) = true := decide_eq_true (by omega)
                        by_cases hdn : j ≤ n - k
                        · have d2 : decide ((k : Int) + (j : Int) ≤ (n : Int)) = true := decide_eq_true (by omega)
                          have d2n : decide (k + j ≤ n) = true := decide_eq_true (by omega)
                          by_cases hmx : k + j ≤ k + 1
                          · have HD2 := Lib.hid (show GbnMath.run l W R (fs.drop (i + 1)) (k + j) (k + 1) (g ++ [y]) = (K, G) by
                              have h := GbnMath.run_fine (l := l) (W := W) (R := R) (fs := fs.drop (i + 1)) (f := ⟨false, false⟩) HKN.out HS.out rfl rfl HP.out HDD.out hdw (by rw [← HN.out]; exact hdn)
                              rw [Nat.max_eq_left hmx] at h
                              rw [← h]; exact HD.out)
                            have m1 : decide ((k : Int) + 1 < (k : Int) + (j : Int)) = false := decide_eq_false (by omega)
                            have m1n : decide (k + 1 < k + j) = false := decide_eq_false (by omega)
                            have m2 : decide (1 < (j : Int)) = false := decide_eq_false (by omega)
                            have m2n : decide (1 < j) = false := decide_eq_false (by omega)
                            clear HD HKN
                            go_wp2_with fail
                            go_quiet (fail)
                            go_wp2_with fail
                            go_roundw
                            case rel => exact ⟨i + 1, k + j, k + 1, c + 1, g ++ [y], by omega, by omega, by omega, by omega, by omega, by omega, by omega, by first | rfl | go_num, by first | rfl | go_num, by first | rfl | go_num, HL.out, own_drewN hown2 _, HD2.out, below_drewN hB2 _⟩
                            case measure => simp [intOf]; omega
                          · have HD2 := Lib.hid (show GbnMath.run l W R (fs.drop (i + 1)) (k + j) (k + j) (g ++ [y]) = (K, G) by
                              have h := GbnMath.run_fine (l := l) (W := W) (R := R) (fs := fs.drop (i + 1)) (f := ⟨false, false⟩) HKN.out HS.out rfl rfl HP.out HDD.out hdw (by rw [← HN.out]; exact hdn)
                              rw [Nat.max_eq_right (by omega)] at h
                              rw [← h]; exact HD.out)
                            have m1 : decide ((k : Int) + 1 < (k : Int) + (j : Int)) = true := decide_eq_true (by omega)
                            have m1n : decide (k + 1 < k + j) = true := decide_eq_true (by omega)
                            have m2 : decide (1 < (j : Int)) = true := decide_eq_true (by omega)
                            have m2n : decide (1 < j) = true := decide_eq_true (by omega)
                            clear HD HKN
                            go_wp2_with fail
                            go_quiet (fail)
                            go_wp2_with fail
                            go_roundw
                            case rel => exact ⟨i + 1, k + j, k + j, c + 1, g ++ [y], by omega, by omega, by omega, by omega, by omega, by omega, by omega, by first | rfl | go_num, by first | rfl | go_num, by first | rfl | go_num, HL.out, own_drewN hown2 _, HD2.out, below_drewN hB2 _⟩
                            case measure => simp [intOf]; omega
                        · have d2 : decide ((k : Int) + (j : Int) ≤ (n : Int)) = false := decide_eq_false (by omega)
                          have d2n : decide (k + j ≤ n) = false := decide_eq_false (by omega)
                          have HD2 := Lib.hid (show GbnMath.run l W R (fs.drop (i + 1)) k (k + 1) (g ++ [y]) = (K, G) by rw [← GbnMath.run_far (f := ⟨false, false⟩) HKN.out HS.out rfl rfl HP.out HDD.out (by rw [← HN.out]; omega)]; exact HD.out)
                          clear HD HKN hdn
                          go_wp2_with fail
                          go_quiet (fail)
                          go_wp2_with fail
                          go_roundw
                          case rel => exact ⟨i + 1, k, k + 1, c + 1, g ++ [y], by omega, by omega, by omega, by omega, by omega, by omega, by omega, by first | rfl | go_num, by first | rfl | go_num, by first | rfl | go_num, HL.out, own_drewN hown2 _, HD2.out, below_drewN hB2 _⟩
                          case measure => simp [intOf]; omega
                      · have d1 : decide ((j : Int) ≤ (W : Int)) = false := decide_eq_false (by omega)
                        have HD2 := Lib.hid (show GbnMath.run l W R (fs.drop (i + 1)) k (k + 1) (g ++ [y]) = (K, G) by rw [← GbnMath.run_far (f := ⟨false, false⟩) HKN.out HS.out rfl rfl HP.out HDD.out (by omega)]; exact HD.out)
                        clear HD HKN
                        go_wp2_with fail
                        go_quiet (fail)
                        go_wp2_with fail
                        go_roundw
                        case rel => exact ⟨i + 1, k, k + 1, c + 1, g ++ [y], by omega, by omega, by omega, by omega, by omega, by omega, by omega, by first | rfl | go_num, by first | rfl | go_num, by first | rfl | go_num, HL.out, own_drewN hown2 _, HD2.out, below_drewN hB2 _⟩
                        case measure => simp [intOf]; omega
              · have t1 := tmod_ne hm
                have t1e := emod_ne hm
                have HP := Lib.hid (show GbnMath.put l R k g = g from GbnMath.put_no (by rw [HC.out]; exact hm))
                clear hm hxk hxw HY
                cases x2 with
                | true =>
                  have HD2 := Lib.hid (show GbnMath.run l W R (fs.drop (i + 1)) k (k + 1) g = (K, G) by rw [← GbnMath.run_back (f := ⟨false, true⟩) HKN.out HS.out rfl rfl HP.out]; exact HD.out)
                  clear HD HKN
                  -- bNB
                  go_wp2_with fail
                  go_quiet (fail)
                  go_wp2_with fail
                  go_roundw
                  case rel => exact ⟨i + 1, k, k + 1, c, g, by omega, by omega, by omega, by omega, by omega, by omega, by omega, by first | rfl | go_num, by first | rfl | go_num, by first | rfl | go_num, HC.out, own_drewN hown _, HD2.out, below_drewN hB _⟩
                  case measure => simp [intOf]; omega
                | false =>
                  -- bNF
                  obtain ⟨d, hd⟩ : ∃ d, GbnMath.far R k (c) = d := ⟨_, rfl⟩
                  have hdk : k + d ≤ c := by rw [← hd]; unfold GbnMath.far; have := Nat.mod_le (c - k) R; omega
                  have HDD := Lib.hid (show GbnMath.far R k (g).length = d by rw [HC.out]; exact hd)
                  have HDF := Lib.hid hd
                  clear hd
                  go_wp2_with fail
                  go_quiet (fail)
                  go_wp2_with fail
                  obtain ⟨wz, rfl⟩ : ∃ z, z = wr := ⟨wr, rfl⟩
                  go_loopw [15] (fun dv wr => ∃ j : Nat, j ≤ d ∧ dv = .int .i64 j ∧ OwnI wr w.heap.size (.slice vp c vc) (g) ∧ Below w.heap.size w wr) (fun dv _ => d - (intOf dv).toNat)
                  case atStart => exact ⟨0, Nat.zero_le _, rfl, (own_drewN hown _), (below_drewN hB _)⟩
                  case round =>
                    obtain ⟨j, hjd, rfl, hown2, hB2⟩ := hrel
                    by_cases hj : j < d
                    · obtain ⟨q1, q2⟩ := step_on_i (by omega) HDF.out hj
                      go_wp2_with fail
                      go_quiet (fail)
                      go_wp2_with fail
                      go_roundw
                      case rel => exact ⟨j + 1, by omega, by first | rfl | go_num, own_drewN hown2 _, below_drewN hB2 _⟩
                      case measure => simp [intOf]; omega
                    · obtain rfl : j = d := by omega
                      obtain ⟨q1, q2⟩ := step_end_i (by omega) HDF.out
                      clear hj hjd
                      by_cases hdw : j ≤ W
                      · have d1 : decide ((j : Int) ≤ (W : Int)) = true := decide_eq_true (by omega)
                        by_cases hdn : j ≤ n - k
                        · have d2 : decide ((k : Int) + (j : Int) ≤ (n : Int)) = true := decide_eq_true (by omega)
                          have d2n : decide (k + j ≤ n) = true := decide_eq_true (by omega)
                          by_cases hmx : k + j ≤ k + 1
                          · have HD2 := Lib.hid (show GbnMath.run l W R (fs.drop (i + 1)) (k + j) (k + 1) (g) = (K, G) by
                              have h := GbnMath.run_fine (l := l) (W := W) (R := R) (fs := fs.drop (i + 1)) (f := ⟨false, false⟩) HKN.out HS.out rfl rfl HP.out HDD.out hdw (by rw [← HN.out]; exact hdn)
                              rw [Nat.max_eq_left hmx] at h
                              rw [← h]; exact HD.out)
                            have m1 : decide ((k : Int) + 1 < (k : Int) + (j : Int)) = false := decide_eq_false (by omega)
                            have m1n : decide (k + 1 < k + j) = false := decide_eq_false (by omega)
                            have m2 : decide (1 < (j : Int)) = false := decide_eq_false (by omega)
                            have m2n : decide (1 < j) = false := decide_eq_false (by omega)
                            clear HD HKN
                            go_wp2_with fail
                            go_quiet (fail)
                            go_wp2_with fail
                            go_roundw
                            case rel => exact ⟨i + 1, k + j, k + 1, c, g, by omega, by omega, by omega, by omega, by omega, by omega, by omega, by first | rfl | go_num, by first | rfl | go_num, by first | rfl | go_num, HC.out, own_drewN hown2 _, HD2.out, below_drewN hB2 _⟩
                            case measure => simp [intOf]; omega
                          · have HD2 := Lib.hid (show GbnMath.run l W R (fs.drop (i + 1)) (k + j) (k + j) (g) = (K, G) by
                              have h := GbnMath.run_fine (l := l) (W := W) (R := R) (fs := fs.drop (i + 1)) (f := ⟨false, false⟩) HKN.out HS.out rfl rfl HP.out HDD.out hdw (by rw [← HN.out]; exact hdn)
                              rw [Nat.max_eq_right (by omega)] at h
                              rw [← h]; exact HD.out)
                            have m1 : decide ((k : Int) + 1 < (k : Int) + (j : Int)) = true := decide_eq_true (by omega)
                            have m1n : decide (k + 1 < k + j) = true := decide_eq_true (by omega)
                            have m2 : decide (1 < (j : Int)) = true := decide_eq_true (by omega)
                            have m2n : decide (1 < j) = true := decide_eq_true (by omega)
                            clear HD HKN
                            go_wp2_with fail
                            go_quiet (fail)
                            go_wp2_with fail
                            go_roundw
                            case rel => exact ⟨i + 1, k + j, k + j, c, g, by omega, by omega, by omega, by omega, by omega, by omega, by omega, by first | rfl | go_num, by first | rfl | go_num, by first | rfl | go_num, HC.out, own_drewN hown2 _, HD2.out, below_drewN hB2 _⟩
                            case measure => simp [intOf]; omega
                        · have d2 : decide ((k : Int) + (j : Int) ≤ (n : Int)) = false := decide_eq_false (by omega)
                          have d2n : decide (k + j ≤ n) = false := decide_eq_false (by omega)
                          have HD2 := Lib.hid (show GbnMath.run l W R (fs.drop (i + 1)) k (k + 1) (g) = (K, G) by rw [← GbnMath.run_far (f := ⟨false, false⟩) HKN.out HS.out rfl rfl HP.out HDD.out (by rw [← HN.out]; omega)]; exact HD.out)
                          clear HD HKN hdn
                          go_wp2_with fail
                          go_quiet (fail)
                          go_wp2_with fail
                          go_roundw
                          case rel => exact ⟨i + 1, k, k + 1, c, g, by omega, by omega, by omega, by omega, by omega, by omega, by omega, by first | rfl | go_num, by first | rfl | go_num, by first | rfl | go_num, HC.out, own_drewN hown2 _, HD2.out, below_drewN hB2 _⟩
                          case measure => simp [intOf]; omega
                      · have d1 : decide ((j : Int) ≤ (W : Int)) = false := decide_eq_false (by omega)
                        have HD2 := Lib.hid (show GbnMath.run l W R (fs.drop (i + 1)) k (k + 1) (g) = (K, G) by rw [← GbnMath.run_far (f := ⟨false, false⟩) HKN.out HS.out rfl rfl HP.out HDD.out (by omega)]; exact HD.out)
                        clear HD HKN
                        go_wp2_with fail
                        go_quiet (fail)
                        go_wp2_with fail
                        go_roundw
                        case rel => exact ⟨i + 1, k, k + 1, c, g, by omega, by omega, by omega, by omega, by omega, by omega, by omega, by first | rfl | go_num, by first | rfl | go_num, by first | rfl | go_num, HC.out, own_drewN hown2 _, HD2.out, below_drewN hB2 _⟩
                        case measure => simp [intOf]; omega
          · have a2 : decide ((nx : Int) ≥ (n : Int)) = false := decide_eq_false (by omega)
            have hs : GbnMath.sent n W k nx = nx := by unfold GbnMath.sent; rw [if_neg (by omega)]
            have hsn : nx < n := by omega
            have hsw : nx < k + W := by omega
            have hsk : k ≤ nx := by omega
            have HS := Lib.hid (show GbnMath.sent l.length W k nx = nx by rw [← HN.out]; exact hs)
            clear hs
            cases x1 with
            | true =>
              have HD2 := Lib.hid (show GbnMath.run l W R (fs.drop (i + 1)) k (nx + 1) g = (K, G) by rw [← GbnMath.run_lost (f := ⟨true, x2⟩) HKN.out HS.out rfl]; exact HD.out)
              clear HD HKN
              -- cL
              go_wp2_with fail
              go_roundw
              case rel => exact ⟨i + 1, k, nx + 1, c, g, by omega, by omega, by omega, by omega, by omega, hkc, by omega, by first | rfl | go_num, by first | rfl | go_num, by first | rfl | go_num, HC.out, hown, HD2.out, hB⟩
              case measure => simp [intOf]; omega
            | false =>
              obtain ⟨b1, off1, rfl, hb1w, hc1⟩ := HI.out.2.2.2 (by rw [← HN.out]; omega)
              have hd := hc1 nx (by rw [← HN.out]; exact hsn)
              have hxk := (hB.cell (p := ⟨b1, off1 + nx, none⟩) hb1w).trans hd
              have hxw := HI.out.2.2.1 nx
              obtain ⟨y, hy⟩ : ∃ y, l[nx]?.getD 0 = y := ⟨_, rfl⟩
              rw [hy] at hxk hxw
              have HY := Lib.hid hy
              clear hc1 hd hy
              by_cases hm : nx % R = c % R
              · have t1 := tmod_eq hm
                have t1e := emod_eq hm
                have HP := Lib.hid (show GbnMath.put l R nx g = g ++ [y] by rw [← HY.out]; exact GbnMath.put_yes (by rw [HC.out]; exact hm))
                have HL := Lib.hid (show (g ++ [y]).length = c + 1 by rw [List.length_append, HC.out]; rfl)
                clear hm
                cases x2 with
                | true =>
                  have HD2 := Lib.hid (show GbnMath.run l W R (fs.drop (i + 1)) k (nx + 1) (g ++ [y]) = (K, G) by rw [← GbnMath.run_back (f := ⟨false, true⟩) HKN.out HS.out rfl rfl HP.out]; exact HD.out)
                  clear HD HKN
                  -- cYB
                  go_wp2_with fail
                  go_quiet (fail)
                  go_wp2_with (at_builtin
                               refine wp_app rfl (.tmp 56) (.tmp 61) rfl w.heap.size _ g (some ⟨wr.heap.size, 0, none⟩) 1 1 [y] rfl ((own_drewN hown _).alloc _) rfl rfl (Ints.one (wr.drewN nq) y hxw) (by rw [List.length_singleton, HC.out]; omega) (Nat.le_trans hBs (by simp)) ?_
                               intro v1 wa hown1 hg1 hat1
                               have hb1 : Below w.heap.size w wa := below_app (balloc (below_drewN hB _) _) ((own_drewN hown _).alloc _) hg1 (Nat.le_trans hBs (by simp))
                               have f2 : wa.cell? ⟨b, off + i * 2 + 1, none⟩ = some (.bool true) := (HCELL.out wa hb1).2
                               clear hat1 hg1
                               obtain ⟨vp1, vc1, rfl, hvi1⟩ := hown1.form
                               rw [HL.out] at hown1 ⊢
                               clear hvi1)
                  go_roundw
                  case rel => exact ⟨i + 1, k, nx + 1, c + 1, g ++ [y], by omega, by omega, by omega, by omega, by omega, by omega, by omega, by first | rfl | go_num, by first | rfl | go_num, by first | rfl | go_num, HL.out, hown1, HD2.out, hb1⟩
                  case measure => simp [intOf]; omega
                | false =>
                  -- cYF
                  obtain ⟨d, hd⟩ : ∃ d, GbnMath.far R k (c + 1) = d := ⟨_, rfl⟩
                  have hdk : k + d ≤ c + 1 := by rw [← hd]; unfold GbnMath.far; have := Nat.mod_le (c + 1 - k) R; omega
                  have HDD := Lib.hid (show GbnMath.far R k (g ++ [y]).length = d by rw [HL.out]; exact hd)
                  have HDF := Lib.hid hd
                  clear hd
                  go_wp2_with fail
                  go_quiet (fail)
                  go_wp2_with (at_builtin
                               refine wp_app rfl (.tmp 56) (.tmp 61) rfl w.heap.size _ g (some ⟨wr.heap.size, 0, none⟩) 1 1 [y] rfl ((own_drewN hown _).alloc _) rfl rfl (Ints.one (wr.drewN nq) y hxw) (by rw [List.length_singleton, HC.out]; omega) (Nat.le_trans hBs (by simp)) ?_
                               intro v1 wa hown1 hg1 hat1
                               have hb1 : Below w.heap.size w wa := below_app (balloc (below_drewN hB _) _) ((own_drewN hown _).alloc _) hg1 (Nat.le_trans hBs (by simp))
                               have f2 : wa.cell? ⟨b, off + i * 2 + 1, none⟩ = some (.bool false) := (HCELL.out wa hb1).2
                               clear hat1 hg1
                               obtain ⟨vp1, vc1, rfl, hvi1⟩ := hown1.form
                               rw [HL.out] at hown1 ⊢
                               clear hvi1)
                  obtain ⟨wz, rfl⟩ : ∃ z, z = wr := ⟨wr, rfl⟩
                  go_loopw [15] (fun dv wr => ∃ j : Nat, j ≤ d ∧ dv = .int .i64 j ∧ OwnI wr w.heap.size (.slice vp1 (c + 1) vc1) (g ++ [y]) ∧ Below w.heap.size w wr) (fun dv _ => d - (intOf dv).toNat)
                  case atStart => exact ⟨0, Nat.zero_le _, rfl, hown1, hb1⟩
                  case round =>
                    obtain ⟨j, hjd, rfl, hown2, hB2⟩ := hrel
                    by_cases hj : j < d
                    · obtain ⟨q1, q2⟩ := step_on_i (by omega) HDF.out hj
                      rw [show ((c + 1 : Nat) : Int) = (c : Int) + 1 by omega] at q1 q2
                      go_wp2_with fail
                      go_quiet (fail)
                      go_wp2_with fail
                      go_roundw
                      case rel => exact ⟨j + 1, by omega, by first | rfl | go_num, own_drewN hown2 _, below_drewN hB2 _⟩
                      case measure => simp [intOf]; omega
                    · obtain rfl : j = d := by omega
                      obtain ⟨q1, q2⟩ := step_end_i (by omega) HDF.out
                      rw [show ((c + 1 : Nat) : Int) = (c : Int) + 1 by omega] at q1 q2
                      clear hj hjd
                      by_cases hdw : j ≤ W
                      · have d1 : decide ((j : Int) ≤ (W : Int)) = true := decide_eq_true (by omega)
                        by_cases hdn : j ≤ n - k
                        · have d2 : decide ((k : Int) + (j : Int) ≤ (n : Int)) = true := decide_eq_true (by omega)
                          have d2n : decide (k + j ≤ n) = true := decide_eq_true (by omega)
                          by_cases hmx : k + j ≤ nx + 1
                          · have HD2 := Lib.hid (show GbnMath.run l W R (fs.drop (i + 1)) (k + j) (nx + 1) (g ++ [y]) = (K, G) by
                              have h := GbnMath.run_fine (l := l) (W := W) (R := R) (fs := fs.drop (i + 1)) (f := ⟨false, false⟩) HKN.out HS.out rfl rfl HP.out HDD.out hdw (by rw [← HN.out]; exact hdn)
                              rw [Nat.max_eq_left hmx] at h
                              rw [← h]; exact HD.out)
                            have m1 : decide ((nx : Int) + 1 < (k : Int) + (j : Int)) = false := decide_eq_false (by omega)
                            have m1n : decide (nx + 1 < k + j) = false := decide_eq_false (by omega)
                            clear HD HKN
                            go_wp2_with fail
                            go_quiet (fail)
                            go_wp2_with fail
                            go_roundw
                            case rel => exact ⟨i + 1, k + j, nx + 1, c + 1, g ++ [y], by omega, by omega, by omega, by omega, by omega, by omega, by omega, by first | rfl | go_num, by first | rfl | go_num, by first | rfl | go_num, HL.out, own_drewN hown2 _, HD2.out, below_drewN hB2 _⟩
                            case measure => simp [intOf]; omega
                          · have HD2 := Lib.hid (show GbnMath.run l W R (fs.drop (i + 1)) (k + j) (k + j) (g ++ [y]) = (K, G) by
                              have h := GbnMath.run_fine (l := l) (W := W) (R := R) (fs := fs.drop (i + 1)) (f := ⟨false, false⟩) HKN.out HS.out rfl rfl HP.out HDD.out hdw (by rw [← HN.out]; exact hdn)
                              rw [Nat.max_eq_right (by omega)] at h
                              rw [← h]; exact HD.out)
                            have m1 : decide ((nx : Int) + 1 < (k : Int) + (j : Int)) = true := decide_eq_true (by omega)
                            have m1n : decide (nx + 1 < k + j) = true := decide_eq_true (by omega)
                            clear HD HKN
                            go_wp2_with fail
                            go_quiet (fail)
                            go_wp2_with fail
                            go_roundw
                            case rel => exact ⟨i + 1, k + j, k + j, c + 1, g ++ [y], by omega, by omega, by omega, by omega, by omega, by omega, by omega, by first | rfl | go_num, by first | rfl | go_num, by first | rfl | go_num, HL.out, own_drewN hown2 _, HD2.out, below_drewN hB2 _⟩
                            case measure => simp [intOf]; omega
                        · have d2 : decide ((k : Int) + (j : Int) ≤ (n : Int)) = false := decide_eq_false (by omega)
                          have d2n : decide (k + j ≤ n) = false := decide_eq_false (by omega)
                          have HD2 := Lib.hid (show GbnMath.run l W R (fs.drop (i + 1)) k (nx + 1) (g ++ [y]) = (K, G) by rw [← GbnMath.run_far (f := ⟨false, false⟩) HKN.out HS.out rfl rfl HP.out HDD.out (by rw [← HN.out]; omega)]; exact HD.out)
                          clear HD HKN hdn
                          go_wp2_with fail
                          go_quiet (fail)
                          go_wp2_with fail
                          go_roundw
                          case rel => exact ⟨i + 1, k, nx + 1, c + 1, g ++ [y], by omega, by omega, by omega, by omega, by omega, by omega, by omega, by first | rfl | go_num, by first | rfl | go_num, by first | rfl | go_num, HL.out, own_drewN hown2 _, HD2.out, below_drewN hB2 _⟩
                          case measure => simp [intOf]; omega
                      · have d1 : decide ((j : Int) ≤ (W : Int)) = false := decide_eq_false (by omega)
                        have HD2 := Lib.hid (show GbnMath.run l W R (fs.drop (i + 1)) k (nx + 1) (g ++ [y]) = (K, G) by rw [← GbnMath.run_far (f := ⟨false, false⟩) HKN.out HS.out rfl rfl HP.out HDD.out (by omega)]; exact HD.out)
                        clear HD HKN
                        go_wp2_with fail
                        go_quiet (fail)
                        go_wp2_with fail
                        go_roundw
                        case rel => exact ⟨i + 1, k, nx + 1, c + 1, g ++ [y], by omega, by omega, by omega, by omega, by omega, by omega, by omega, by first | rfl | go_num, by first | rfl | go_num, by first | rfl | go_num, HL.out, own_drewN hown2 _, HD2.out, below_drewN hB2 _⟩
                        case measure => simp [intOf]; omega
              · have t1 := tmod_ne hm
                have t1e := emod_ne hm
                have HP := Lib.hid (show GbnMath.put l R nx g = g from GbnMath.put_no (by rw [HC.out]; exact hm))
                clear hm hxk hxw HY
                cases x2 with
                | true =>
                  have HD2 := Lib.hid (show GbnMath.run l W R (fs.drop (i + 1)) k (nx + 1) g = (K, G) by rw [← GbnMath.run_back (f := ⟨false, true⟩) HKN.out HS.out rfl rfl HP.out]; exact HD.out)
                  clear HD HKN
                  -- cNB
                  go_wp2_with fail
                  go_quiet (fail)
                  go_wp2_with fail
                  go_roundw
                  case rel => exact ⟨i + 1, k, nx + 1, c, g, by omega, by omega, by omega, by omega, by omega, by omega, by omega, by first | rfl | go_num, by first | rfl | go_num, by first | rfl | go_num, HC.out, own_drewN hown _, HD2.out, below_drewN hB _⟩
                  case measure => simp [intOf]; omega
                | false =>
                  -- cNF
                  obtain ⟨d, hd⟩ : ∃ d, GbnMath.far R k (c) = d := ⟨_, rfl⟩
                  have hdk : k + d ≤ c := by rw [← hd]; unfold GbnMath.far; have := Nat.mod_le (c - k) R; omega
                  have HDD := Lib.hid (show GbnMath.far R k (g).length = d by rw [HC.out]; exact hd)
                  have HDF := Lib.hid hd
                  clear hd
                  go_wp2_with fail
                  go_quiet (fail)
                  go_wp2_with fail
                  obtain ⟨wz, rfl⟩ : ∃ z, z = wr := ⟨wr, rfl⟩
                  go_loopw [15] (fun dv wr => ∃ j : Nat, j ≤ d ∧ dv = .int .i64 j ∧ OwnI wr w.heap.size (.slice vp c vc) (g) ∧ Below w.heap.size w wr) (fun dv _ => d - (intOf dv).toNat)
                  case atStart => exact ⟨0, Nat.zero_le _, rfl, (own_drewN hown _), (below_drewN hB _)⟩
                  case round =>
                    obtain ⟨j, hjd, rfl, hown2, hB2⟩ := hrel
                    by_cases hj : j < d
                    · obtain ⟨q1, q2⟩ := step_on_i (by omega) HDF.out hj
                      go_wp2_with fail
                      go_quiet (fail)
                      go_wp2_with fail
                      go_roundw
                      case rel => exact ⟨j + 1, by omega, by first | rfl | go_num, own_drewN hown2 _, below_drewN hB2 _⟩
                      case measure => simp [intOf]; omega
                    · obtain rfl : j = d := by omega
                      obtain ⟨q1, q2⟩ := step_end_i (by omega) HDF.out
                      clear hj hjd
                      by_cases hdw : j ≤ W
                      · have d1 : decide ((j : Int) ≤ (W : Int)) = true := decide_eq_true (by omega)
                        by_cases hdn : j ≤ n - k
                        · have d2 : decide ((k : Int) + (j : Int) ≤ (n : Int)) = true := decide_eq_true (by omega)
                          have d2n : decide (k + j ≤ n) = true := decide_eq_true (by omega)
                          by_cases hmx : k + j ≤ nx + 1
                          · have HD2 := Lib.hid (show GbnMath.run l W R (fs.drop (i + 1)) (k + j) (nx + 1) (g) = (K, G) by
                              have h := GbnMath.run_fine (l := l) (W := W) (R := R) (fs := fs.drop (i + 1)) (f := ⟨false, false⟩) HKN.out HS.out rfl rfl HP.out HDD.out hdw (by rw [← HN.out]; exact hdn)
                              rw [Nat.max_eq_left hmx] at h
                              rw [← h]; exact HD.out)
                            have m1 : decide ((nx : Int) + 1 < (k : Int) + (j : Int)) = false := decide_eq_false (by omega)
                            have m1n : decide (nx + 1 < k + j) = false := decide_eq_false (by omega)
                            clear HD HKN
                            go_wp2_with fail
                            go_quiet (fail)
                            go_wp2_with fail
                            go_roundw
                            case rel => exact ⟨i + 1, k + j, nx + 1, c, g, by omega, by omega, by omega, by omega, by omega, by omega, by omega, by first | rfl | go_num, by first | rfl | go_num, by first | rfl | go_num, HC.out, own_drewN hown2 _, HD2.out, below_drewN hB2 _⟩
                            case measure => simp [intOf]; omega
                          · have HD2 := Lib.hid (show GbnMath.run l W R (fs.drop (i + 1)) (k + j) (k + j) (g) = (K, G) by
                              have h := GbnMath.run_fine (l := l) (W := W) (R := R) (fs := fs.drop (i + 1)) (f := ⟨false, false⟩) HKN.out HS.out rfl rfl HP.out HDD.out hdw (by rw [← HN.out]; exact hdn)
                              rw [Nat.max_eq_right (by omega)] at h
                              rw [← h]; exact HD.out)
                            have m1 : decide ((nx : Int) + 1 < (k : Int) + (j : Int)) = true := decide_eq_true (by omega)
                            have m1n : decide (nx + 1 < k + j) = true := decide_eq_true (by omega)
                            clear HD HKN
                            go_wp2_with fail
                            go_quiet (fail)
                            go_wp2_with fail
                            go_roundw
                            case rel => exact ⟨i + 1, k + j, k + j, c, g, by omega, by omega, by omega, by omega, by omega, by omega, by omega, by first | rfl | go_num, by first | rfl | go_num, by first | rfl | go_num, HC.out, own_drewN hown2 _, HD2.out, below_drewN hB2 _⟩
                            case measure => simp [intOf]; omega
                        · have d2 : decide ((k : Int) + (j : Int) ≤ (n : Int)) = false := decide_eq_false (by omega)
                          have d2n : decide (k + j ≤ n) = false := decide_eq_false (by omega)
                          have HD2 := Lib.hid (show GbnMath.run l W R (fs.drop (i + 1)) k (nx + 1) (g) = (K, G) by rw [← GbnMath.run_far (f := ⟨false, false⟩) HKN.out HS.out rfl rfl HP.out HDD.out (by rw [← HN.out]; omega)]; exact HD.out)
                          clear HD HKN hdn
                          go_wp2_with fail
                          go_quiet (fail)
                          go_wp2_with fail
                          go_roundw
                          case rel => exact ⟨i + 1, k, nx + 1, c, g, by omega, by omega, by omega, by omega, by omega, by omega, by omega, by first | rfl | go_num, by first | rfl | go_num, by first | rfl | go_num, HC.out, own_drewN hown2 _, HD2.out, below_drewN hB2 _⟩
                          case measure => simp [intOf]; omega
                      · have d1 : decide ((j : Int) ≤ (W : Int)) = false := decide_eq_false (by omega)
                        have HD2 := Lib.hid (show GbnMath.run l W R (fs.drop (i + 1)) k (nx + 1) (g) = (K, G) by rw [← GbnMath.run_far (f := ⟨false, false⟩) HKN.out HS.out rfl rfl HP.out HDD.out (by omega)]; exact HD.out)
                        clear HD HKN
                        go_wp2_with fail
                        go_quiet (fail)
                        go_wp2_with fail
                        go_roundw
                        case rel => exact ⟨i + 1, k, nx + 1, c, g, by omega, by omega, by omega, by omega, by omega, by omega, by omega, by first | rfl | go_num, by first | rfl | go_num, by first | rfl | go_num, HC.out, own_drewN hown2 _, HD2.out, below_drewN hB2 _⟩
                        case measure => simp [intOf]; omega
    · obtain rfl : i = m := by omega
      have HE := Lib.hid (show (k, g) = (K, G) by
        have := HRUN.out
        rw [List.drop_eq_nil_of_le (by rw [HM.out]; exact Nat.le_refl _)] at this
        exact this)
      clear HRUN
      have HOW := Lib.hid hown
      clear hown
      go_wp2_with fail
      go_ret2
      refine ⟨_, by rw [← (Prod.mk.inj HE.out).1]; rfl, ?_, hB⟩
      rw [← (Prod.mk.inj HE.out).2]; exact HOW.out
end Go.Proofs.YtainefacghlmjaaDoor.Gbn
