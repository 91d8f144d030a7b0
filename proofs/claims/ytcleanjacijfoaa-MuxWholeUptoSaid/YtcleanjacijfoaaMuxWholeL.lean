/- Frames in any order yield a stream's bytes exactly once: the law returns true wherever what it reads is of bulk at most 1048576 (the upto form). -/
import Derived.Test.YtcleanjacijfoaaMuxFact
import Derived.Test.YtcleanjacijfoaaMuxWholeN
import Derived.Test.YtcleanjacijfoaaApt
namespace Go.Proofs.Ytcleanjacijfoaa.MuxWholeL
open Go.ChangeShapes Go.WideShapes Go.ChangeAt Go.RowKit
open Go.Proofs.Ytcleanjacijfoaa.Kit Go.Proofs.Ytcleanjacijfoaa.App Go.Proofs.Ytcleanjacijfoaa.Cells Go.Proofs.Ytcleanjacijfoaa.Err Go.Proofs.Ytcleanjacijfoaa.Mux
set_option linter.unusedVariables false
set_option maxRecDepth 20000
set_option maxHeartbeats 2000000

abbrev Law (s t : ByteArray) (z : Int) (p : Option Addr) (cap : Nat) (o : List Int) (w : World) : Prop := Calls Try.prog 3 #[.string s, .string t, .int .i64 z, .slice p o.length cap] w fun e w' => e = .returned (.bool true) ∧ Below w.heap.size w w'
theorem law_long (s t : ByteArray) (z : Int) (p : Option Addr) (cap : Nat) (o : List Int) (w : World) (h : 200 < s.size) : Law s t z p cap o w := by
  have FA := Lib.hid (fact_any w)
  have t1 : decide (200 < (s.size : Int)) = true := decide_eq_true (by omega)
  unfold Law
  go_enter Try.func3, Try.ntmps3
  go_wp2_with fail
  refine FA.out.mono ?_; rintro e w1 ⟨rfl, hb1⟩
  go_wp2_with fail
  go_ret
  exact ⟨rfl, hb1⟩
theorem law_long2 (s t : ByteArray) (z : Int) (p : Option Addr) (cap : Nat) (o : List Int) (w : World) (h0 : s.size ≤ 200) (h : 200 < t.size) : Law s t z p cap o w := by
  have FA := Lib.hid (fact_any w)
  have t0 : decide (200 < (s.size : Int)) = false := decide_eq_false (by omega)
  have t1 : decide (200 < (t.size : Int)) = true := decide_eq_true (by omega)
  unfold Law
  go_enter Try.func3, Try.ntmps3
  go_wp2_with fail
  refine FA.out.mono ?_; rintro e w1 ⟨rfl, hb1⟩
  go_wp2_with fail
  go_ret
  exact ⟨rfl, hb1⟩
theorem law_size (s t : ByteArray) (z : Int) (p : Option Addr) (cap : Nat) (o : List Int) (w : World) (h0 : s.size ≤ 200) (h1 : t.size ≤ 200) (h : ¬ (1 ≤ z ∧ z ≤ 200)) : Law s t z p cap o w := by
  have FA := Lib.hid (fact_any w)
  have t0 : decide (200 < (s.size : Int)) = false := decide_eq_false (by omega)
  have t1 : decide (200 < (t.size : Int)) = false := decide_eq_false (by omega)
  have IN := Lib.hid (fun W => Ring.in_any z 1 200 W false (in_false h))
  clear h
  unfold Law
  go_enter Try.func3, Try.ntmps3
  go_wp2_with fail
  refine FA.out.mono ?_; rintro e w1 ⟨rfl, hb1⟩
  go_wp2_with fail
  refine (IN.out _).mono ?_; rintro e w2 ⟨rfl, rfl⟩
  go_wp2_with fail
  go_ret
  exact ⟨rfl, hb1⟩
set_option maxHeartbeats 8000000 in
theorem law_good (s t : ByteArray) (z : Nat) (p : Option Addr) (cap : Nat) (o : List Int) (w : World) (h0 : s.size ≤ 200) (h1 : t.size ≤ 200) (hz1 : 1 ≤ z) (hz2 : z ≤ 200) (ho : Ints w p cap o) (hn : o.length ≤ 1048576) : Law s t (z : Int) p cap o w := by
  have FA := Lib.hid (fact_any w)
  have t0 : decide (200 < (s.size : Int)) = false := decide_eq_false (by omega)
  have t1 : decide (200 < (t.size : Int)) = false := decide_eq_false (by omega)
  have IZ := Lib.hid (fun W => Ring.in_any (z : Int) 1 200 W true (in_true (by omega)))
  have HI := Lib.hid ho
  have FT := Lib.hid (fun W => frame_any 2 0 t W)
  obtain ⟨hc0, hw0⟩ := Wh.start s t h1
  obtain ⟨D0, hD0⟩ : ∃ D0, putM zz ⟨2, 0, t⟩ = D0 := ⟨_, rfl⟩
  rw [hD0] at hw0
  have PT := Lib.hid (fun g W (H : Mux.Ends W g zz zz) => put_any g zz zz ⟨2, 0, t⟩ W H 0 hc0 D0 hD0)
  rw [er_0] at PT
  unfold val at PT FT
  have HW0 := Lib.hid hw0
  obtain ⟨T, hT⟩ : ∃ T, s.size = T := ⟨_, rfl⟩
  have hT2 : (s.size : Int) = (T : Int) := by rw [hT]
  obtain ⟨M, hM⟩ : ∃ M, (T + z - 1) / z = M := ⟨_, rfl⟩
  have hMb : M ≤ 400 := by rw [← hM]; exact Nat.le_trans (Nat.div_le_self _ _) (by omega)
  have t3 : ((T : Int) + (z : Int) - 1).tdiv (z : Int) = (M : Int) := by
    rw [Int.tdiv_eq_ediv_of_nonneg (by omega), ← hM, show ((T : Int) + (z : Int) - 1) = ((T + z - 1 : Nat) : Int) by omega, Int.natCast_ediv]
  have t3' : ((T : Int) + (z : Int) - 1) / (z : Int) = (M : Int) := by
    rw [← hM, show ((T : Int) + (z : Int) - 1) = ((T + z - 1 : Nat) : Int) by omega, Int.natCast_ediv]
  have t4 : (z : Int) ≠ 0 := by omega
  have t5 : z ≠ 0 := by omega
  have HM := Lib.hid hM
  have HT := Lib.hid hT
  have HZ1 := Lib.hid hz1
  have HS200 := Lib.hid h0
  have HT200 := Lib.hid h1
  rw [hT] at h0
  rw [hT2] at t0
  clear hM hT hc0 hw0 hD0 ho
  unfold Law
  go_enter Try.func3, Try.ntmps3
  go_wp2_with fail
  refine FA.out.mono ?_; rintro e w1 ⟨rfl, hb1⟩
  have HB1 := Lib.hid hb1
  have HI1 := Lib.hid (HI.out.below hb1)
  clear hb1 FA HI
  go_wp2_with fail
  refine (IZ.out _).mono ?_; rintro e w2 ⟨rfl, rfl⟩
  go_wp2_with fail
  refine (new_any _).mono ?_; rintro e w3 ⟨rfl, hE, hb2⟩
  obtain ⟨g, hg⟩ : ∃ g, w2.heap.size = g := ⟨_, rfl⟩
  rw [hg] at hE ⊢
  have HE3 := Lib.hid (show Mux.Ends w3 g zz zz from hE)
  have HI3 := Lib.hid (HI1.out.below hb2)
  have HB3 := Lib.hid (bcall HB1.out hb2)
  have HG : Hid (w.heap.size ≤ g) := Lib.hid (by rw [← hg]; exact HB1.out.size)
  have HG2 : Hid (∀ a, p = some a → 0 < o.length → a.block < g) := Lib.hid (fun a ha h0 => by
    obtain ⟨b, off, e, hb, _⟩ := HI1.out.2.2.2 h0
    rw [e] at ha
    injection ha with ha
    rw [← ha, ← hg]
    exact hb)
  clear hE hb2 hg HI1 HB1
  go_wp2_with fail
  refine (FT.out _).mono ?_; rintro e w4 ⟨rfl, hb⟩
  have HE4 := Lib.hid (HE3.out.below hb)
  have HI4 := Lib.hid (HI3.out.below hb)
  have HB4 := Lib.hid (bcall HB3.out hb)
  clear hb HE3 HI3 HB3 FT
  go_wp2_with fail
  refine (PT.out _ _ HE4.out).mono ?_; rintro e w5 ⟨rfl, hE, hgr⟩
  have HE5 := Lib.hid hE
  have HGR5 := Lib.hid hgr
  clear hE hgr HE4 PT
  go_wp2_with fail
  obtain ⟨n, hn2⟩ : ∃ n, o.length = n := ⟨_, rfl⟩
  rw [hn2] at hn HG2 ⊢
  have HN := Lib.hid hn2
  clear hn2
  go_loopw [12, 13] (fun gv iv wr => ∃ (i q : Nat) (d r : Nat → Nat), i ≤ n + M ∧ q ≤ T ∧ iv = .int .i64 (i : Int) ∧ gv = .string (s.extract 0 q) ∧ Hid (Mux.Ends wr g d r) ∧ Hid (Wh s t d r q) ∧ Hid (Cov d z T (i - n)) ∧ Hid (w4.grownBy wr (some g))) (fun _ i _ => n + M - (intOf i).toNat)
  case atStart => exact ⟨0, 0, D0, zz, Nat.zero_le _, Nat.zero_le _, rfl, by rw [ext_none]; rfl, HE5, HW0, by rw [Nat.zero_sub]; exact Lib.hid (Cov.none _ _ _), HGR5⟩
  case round =>
    obtain ⟨i, q, d, r, hi, hq, rfl, rfl, HE, HW, HC, HGR⟩ := hrel
    clear HE5 HGR5 HW0
    by_cases hlt : i < n + M
    · have u1 : decide ((i : Int) < (n : Int) + (M : Int)) = true := decide_eq_true (by omega)
      by_cases hin : i < n
      · have u3 : decide ((i : Int) < (n : Int)) = true := decide_eq_true (by omega)
        obtain ⟨b, off, rfl, hbo, hco⟩ := HI4.out.2.2.2 (by rw [HN.out]; omega)
        have hbg : b < g := HG2.out _ rfl (by omega)
        have hkeep : wr.heap[b]? = w4.heap[b]? := HGR.out.block b hbo (by simp; omega)
        obtain ⟨y, hy⟩ : ∃ y, o[i]?.getD 0 = y := ⟨_, rfl⟩
        have hyc := (World.cell?_of_block (w := w4) (a := ⟨b, off + i, none⟩) hkeep).trans (hco i (by rw [HN.out]; exact hin))
        have hyb := bounds_int (HI4.out.2.2.1 i)
        rw [hy] at hyc hyb
        have hN0 : i + 1 - n = 0 := by omega
        clear hco hkeep hy hbo
        by_cases hyk : 0 ≤ y ∧ y ≤ (M : Int) - 1
        · obtain ⟨kk, rfl⟩ : ∃ kk : Nat, y = (kk : Int) := ⟨y.toNat, by omega⟩
          have hkk : kk < M := by omega
          have IK := Lib.hid (fun W => Ring.in_any (kk : Int) 0 ((M : Int) - 1) W true (in_true hyk))
          have HCN : Hid (∀ D : Nat → Nat, (∀ j, (kk * z ≤ j ∧ j < min (kk * z + z) T) ∨ d (200 + j) ≠ 0 → D (200 + j) ≠ 0) → Cov D z T (i + 1 - n)) := Lib.hid (fun D _ => by rw [hN0]; exact Cov.none _ _ _)
          clear hyk hN0 hyb
          have hkz : kk * z < T := piece_begin HZ1.out (by rw [HM.out]; exact hkk)
          obtain ⟨P, hP⟩ : ∃ P, kk * z = P := ⟨_, rfl⟩
          have m1 : (kk : Int) * (z : Int) = (P : Int) := by rw [← hP, Int.natCast_mul]
          rw [hP] at hkz HCN
          clear hP
          by_cases hend : T < P + z
          · rw [show min (P + z) T = T by omega] at HCN
            have u4 : decide ((T : Int) < (P : Int) + (z : Int)) = true := decide_eq_true (by omega)
            obtain ⟨hc, q2, hq1, hq2, hj, hW2, hth⟩ := HW.out.step HS200.out (a := P) (e := T) (by omega) (by rw [HT.out]; omega)
            have hO2 := HW.out.okm.put ⟨1, (P : Int), s.extract P (T)⟩
            have hcov := HCN.out _ hth
            obtain ⟨D, hD⟩ : ∃ D, putM d ⟨1, (P : Int), s.extract P (T)⟩ = D := ⟨_, rfl⟩
            rw [hD] at hj hW2 hth hO2 hcov
            obtain ⟨tx, htx⟩ : ∃ tx, textM D r 1 = tx := ⟨_, rfl⟩
            obtain ⟨S, hS⟩ : ∃ S, readR D r 1 = S := ⟨_, rfl⟩
            rw [htx] at hj
            rw [hS] at hW2
            have FO := Lib.hid (fun W => frame_any 1 (P : Int) (s.extract P (T)) W)
            have PU := Lib.hid (fun W (H : Mux.Ends W g d r) => put_any g d r ⟨1, (P : Int), s.extract P (T)⟩ W H 0 hc D hD)
            have RD := Lib.hid (fun W (H : Mux.Ends W g D r) => read_any g D r hO2 1 W H tx htx 0 rfl S hS)
            rw [er_0] at PU RD
            unfold val at PU FO
            have HW2 := Lib.hid hW2
            have HCV := Lib.hid hcov
            have hxz := ext_size s (e := q2) hq2
            obtain ⟨X, hX⟩ : ∃ X, s.extract 0 q2 = X := ⟨_, rfl⟩
            rw [hX] at hj hxz
            have hxz2 : (X.size : Int) = (q2 : Int) := by rw [hxz]
            have HX := Lib.hid hX
            have u7 : (X.toList == X.toList) = true := by simp
            have u8 : (X.toList != X.toList) = false := by simp
            have u9 : decide ((q2 : Int) > (T : Int)) = false := decide_eq_false (by rw [HT.out] at hq2; omega)
            have hq3 : q2 ≤ T := by rw [HT.out] at hq2; exact hq2
            have hpe : P ≤ T := by omega
            have hes : T ≤ s.size := by rw [HT.out]; omega
            have hqs : q2 ≤ s.size := hq2
            have hgs : (s.extract 0 q).size + tx.size ≤ 9223372036854775807 := by rw [← ByteArray.size_append, hj, hxz]; omega
            generalize s.extract 0 q = G at hj hgs ⊢
            have hgs2 : ¬ (9223372036854775807 < G.size + tx.size) := by omega
            obtain ⟨pc, hpc⟩ : ∃ pc, s.extract P (T) = pc := ⟨_, rfl⟩
            rw [hpc] at FO PU
            clear hc hq2 hW2 hth hD htx hS hcov hO2 hxz
            go_wp2_with fail
            refine (IK.out _).mono ?_; rintro e wk ⟨rfl, rfl⟩
            go_wp2_with fail
            refine (FO.out _).mono ?_; rintro e w6 ⟨rfl, hb⟩
            have HE6 := Lib.hid (HE.out.below hb)
            have HG6 := Lib.hid (gtrans HGR.out (gbel hb))
            clear hb FO HE HGR
            go_wp2_with fail
            refine (PU.out _ HE6.out).mono ?_; rintro e w7 ⟨rfl, hE, hg⟩
            have HE7 := Lib.hid hE
            have HG7 := Lib.hid (gtrans HG6.out hg)
            clear hE hg HE6 HG6 PU
            go_wp2_with fail
            refine (RD.out _ HE7.out).mono ?_; rintro e w8 ⟨rfl, hE, hg⟩
            have HE8 := Lib.hid hE
            have HG8 := Lib.hid (gtrans HG7.out hg)
            clear hE hg HE7 HG7 RD
            go_wp2_with fail
            go_roundw
            case rel => exact ⟨i + 1, q2, D, S, by omega, hq3, by first | rfl | go_num, by rw [HX.out], HE8, HW2, HCV, HG8⟩
            case measure => simp [intOf]; omega
          · rw [show min (P + z) T = P + z by omega] at HCN
            have u4 : decide ((T : Int) < (P : Int) + (z : Int)) = false := decide_eq_false (by omega)
            obtain ⟨hc, q2, hq1, hq2, hj, hW2, hth⟩ := HW.out.step HS200.out (a := P) (e := P + z) (by omega) (by rw [HT.out]; omega)
            have hO2 := HW.out.okm.put ⟨1, (P : Int), s.extract P (P + z)⟩
            have hcov := HCN.out _ hth
            obtain ⟨D, hD⟩ : ∃ D, putM d ⟨1, (P : Int), s.extract P (P + z)⟩ = D := ⟨_, rfl⟩
            rw [hD] at hj hW2 hth hO2 hcov
            obtain ⟨tx, htx⟩ : ∃ tx, textM D r 1 = tx := ⟨_, rfl⟩
            obtain ⟨S, hS⟩ : ∃ S, readR D r 1 = S := ⟨_, rfl⟩
            rw [htx] at hj
            rw [hS] at hW2
            have FO := Lib.hid (fun W => frame_any 1 (P : Int) (s.extract P (P + z)) W)
            have PU := Lib.hid (fun W (H : Mux.Ends W g d r) => put_any g d r ⟨1, (P : Int), s.extract P (P + z)⟩ W H 0 hc D hD)
            have RD := Lib.hid (fun W (H : Mux.Ends W g D r) => read_any g D r hO2 1 W H tx htx 0 rfl S hS)
            rw [er_0] at PU RD
            unfold val at PU FO
            have HW2 := Lib.hid hW2
            have HCV := Lib.hid hcov
            have hxz := ext_size s (e := q2) hq2
            obtain ⟨X, hX⟩ : ∃ X, s.extract 0 q2 = X := ⟨_, rfl⟩
            rw [hX] at hj hxz
            have hxz2 : (X.size : Int) = (q2 : Int) := by rw [hxz]
            have HX := Lib.hid hX
            have u7 : (X.toList == X.toList) = true := by simp
            have u8 : (X.toList != X.toList) = false := by simp
            have u9 : decide ((q2 : Int) > (T : Int)) = false := decide_eq_false (by rw [HT.out] at hq2; omega)
            have hq3 : q2 ≤ T := by rw [HT.out] at hq2; exact hq2
            have hpe : P ≤ P + z := by omega
            have hes : P + z ≤ s.size := by rw [HT.out]; omega
            have hqs : q2 ≤ s.size := hq2
            have hgs : (s.extract 0 q).size + tx.size ≤ 9223372036854775807 := by rw [← ByteArray.size_append, hj, hxz]; omega
            generalize s.extract 0 q = G at hj hgs ⊢
            have hgs2 : ¬ (9223372036854775807 < G.size + tx.size) := by omega
            obtain ⟨pc, hpc⟩ : ∃ pc, s.extract P (P + z) = pc := ⟨_, rfl⟩
            rw [hpc] at FO PU
            clear hc hq2 hW2 hth hD htx hS hcov hO2 hxz
            go_wp2_with fail
            refine (IK.out _).mono ?_; rintro e wk ⟨rfl, rfl⟩
            go_wp2_with fail
            refine (FO.out _).mono ?_; rintro e w6 ⟨rfl, hb⟩
            have HE6 := Lib.hid (HE.out.below hb)
            have HG6 := Lib.hid (gtrans HGR.out (gbel hb))
            clear hb FO HE HGR
            go_wp2_with fail
            refine (PU.out _ HE6.out).mono ?_; rintro e w7 ⟨rfl, hE, hg⟩
            have HE7 := Lib.hid hE
            have HG7 := Lib.hid (gtrans HG6.out hg)
            clear hE hg HE6 HG6 PU
            go_wp2_with fail
            refine (RD.out _ HE7.out).mono ?_; rintro e w8 ⟨rfl, hE, hg⟩
            have HE8 := Lib.hid hE
            have HG8 := Lib.hid (gtrans HG7.out hg)
            clear hE hg HE7 HG7 RD
            go_wp2_with fail
            go_roundw
            case rel => exact ⟨i + 1, q2, D, S, by omega, hq3, by first | rfl | go_num, by rw [HX.out], HE8, HW2, HCV, HG8⟩
            case measure => simp [intOf]; omega
        · have IK := Lib.hid (fun W => Ring.in_any y 0 ((M : Int) - 1) W false (in_false hyk))
          have HCN : Hid (Cov d z T (i + 1 - n)) := Lib.hid (by rw [hN0]; exact Cov.none _ _ _)
          clear hyk hN0
          go_wp2_with fail
          refine (IK.out _).mono ?_; rintro e wk ⟨rfl, rfl⟩
          go_wp2_with fail
          go_roundw
          case rel => exact ⟨i + 1, q, d, r, by omega, hq, by first | rfl | go_num, by rfl, HE, HW, HCN, HGR⟩
          case measure => simp [intOf]; omega
      · have u3 : decide ((i : Int) < (n : Int)) = false := decide_eq_false (by omega)
        obtain ⟨kk, hkk0⟩ : ∃ kk, i - n = kk := ⟨_, rfl⟩
        have hkk : kk < M := by omega
        have m0 : (i : Int) - (n : Int) = (kk : Int) := by omega
        have IK := Lib.hid (fun W => Ring.in_any (kk : Int) 0 ((M : Int) - 1) W true (in_true (by omega)))
        have HCN : Hid (∀ D : Nat → Nat, (∀ j, (kk * z ≤ j ∧ j < min (kk * z + z) T) ∨ d (200 + j) ≠ 0 → D (200 + j) ≠ 0) → Cov D z T (i + 1 - n)) := Lib.hid (fun D hD => by
          have h5 := HC.out
          rw [hkk0] at h5
          rw [show i + 1 - n = kk + 1 by omega]
          exact Cov.next h5 hD)
        clear hkk0
        have hkz : kk * z < T := piece_begin HZ1.out (by rw [HM.out]; exact hkk)
        obtain ⟨P, hP⟩ : ∃ P, kk * z = P := ⟨_, rfl⟩
        have m1 : (kk : Int) * (z : Int) = (P : Int) := by rw [← hP, Int.natCast_mul]
        rw [hP] at hkz HCN
        clear hP
        by_cases hend : T < P + z
        · rw [show min (P + z) T = T by omega] at HCN
          have u4 : decide ((T : Int) < (P : Int) + (z : Int)) = true := decide_eq_true (by omega)
          obtain ⟨hc, q2, hq1, hq2, hj, hW2, hth⟩ := HW.out.step HS200.out (a := P) (e := T) (by omega) (by rw [HT.out]; omega)
          have hO2 := HW.out.okm.put ⟨1, (P : Int), s.extract P (T)⟩
          have hcov := HCN.out _ hth
          obtain ⟨D, hD⟩ : ∃ D, putM d ⟨1, (P : Int), s.extract P (T)⟩ = D := ⟨_, rfl⟩
          rw [hD] at hj hW2 hth hO2 hcov
          obtain ⟨tx, htx⟩ : ∃ tx, textM D r 1 = tx := ⟨_, rfl⟩
          obtain ⟨S, hS⟩ : ∃ S, readR D r 1 = S := ⟨_, rfl⟩
          rw [htx] at hj
          rw [hS] at hW2
          have FO := Lib.hid (fun W => frame_any 1 (P : Int) (s.extract P (T)) W)
          have PU := Lib.hid (fun W (H : Mux.Ends W g d r) => put_any g d r ⟨1, (P : Int), s.extract P (T)⟩ W H 0 hc D hD)
          have RD := Lib.hid (fun W (H : Mux.Ends W g D r) => read_any g D r hO2 1 W H tx htx 0 rfl S hS)
          rw [er_0] at PU RD
          unfold val at PU FO
          have HW2 := Lib.hid hW2
          have HCV := Lib.hid hcov
          have hxz := ext_size s (e := q2) hq2
          obtain ⟨X, hX⟩ : ∃ X, s.extract 0 q2 = X := ⟨_, rfl⟩
          rw [hX] at hj hxz
          have hxz2 : (X.size : Int) = (q2 : Int) := by rw [hxz]
          have HX := Lib.hid hX
          have u7 : (X.toList == X.toList) = true := by simp
          have u8 : (X.toList != X.toList) = false := by simp
          have u9 : decide ((q2 : Int) > (T : Int)) = false := decide_eq_false (by rw [HT.out] at hq2; omega)
          have hq3 : q2 ≤ T := by rw [HT.out] at hq2; exact hq2
          have hpe : P ≤ T := by omega
          have hes : T ≤ s.size := by rw [HT.out]; omega
          have hqs : q2 ≤ s.size := hq2
          have hgs : (s.extract 0 q).size + tx.size ≤ 9223372036854775807 := by rw [← ByteArray.size_append, hj, hxz]; omega
          generalize s.extract 0 q = G at hj hgs ⊢
          have hgs2 : ¬ (9223372036854775807 < G.size + tx.size) := by omega
          obtain ⟨pc, hpc⟩ : ∃ pc, s.extract P (T) = pc := ⟨_, rfl⟩
          rw [hpc] at FO PU
          clear hc hq2 hW2 hth hD htx hS hcov hO2 hxz
          go_wp2_with fail
          refine (IK.out _).mono ?_; rintro e wk ⟨rfl, rfl⟩
          go_wp2_with fail
          refine (FO.out _).mono ?_; rintro e w6 ⟨rfl, hb⟩
          have HE6 := Lib.hid (HE.out.below hb)
          have HG6 := Lib.hid (gtrans HGR.out (gbel hb))
          clear hb FO HE HGR
          go_wp2_with fail
          refine (PU.out _ HE6.out).mono ?_; rintro e w7 ⟨rfl, hE, hg⟩
          have HE7 := Lib.hid hE
          have HG7 := Lib.hid (gtrans HG6.out hg)
          clear hE hg HE6 HG6 PU
          go_wp2_with fail
          refine (RD.out _ HE7.out).mono ?_; rintro e w8 ⟨rfl, hE, hg⟩
          have HE8 := Lib.hid hE
          have HG8 := Lib.hid (gtrans HG7.out hg)
          clear hE hg HE7 HG7 RD
          go_wp2_with fail
          go_roundw
          case rel => exact ⟨i + 1, q2, D, S, by omega, hq3, by first | rfl | go_num, by rw [HX.out], HE8, HW2, HCV, HG8⟩
          case measure => simp [intOf]; omega
        · rw [show min (P + z) T = P + z by omega] at HCN
          have u4 : decide ((T : Int) < (P : Int) + (z : Int)) = false := decide_eq_false (by omega)
          obtain ⟨hc, q2, hq1, hq2, hj, hW2, hth⟩ := HW.out.step HS200.out (a := P) (e := P + z) (by omega) (by rw [HT.out]; omega)
          have hO2 := HW.out.okm.put ⟨1, (P : Int), s.extract P (P + z)⟩
          have hcov := HCN.out _ hth
          obtain ⟨D, hD⟩ : ∃ D, putM d ⟨1, (P : Int), s.extract P (P + z)⟩ = D := ⟨_, rfl⟩
          rw [hD] at hj hW2 hth hO2 hcov
          obtain ⟨tx, htx⟩ : ∃ tx, textM D r 1 = tx := ⟨_, rfl⟩
          obtain ⟨S, hS⟩ : ∃ S, readR D r 1 = S := ⟨_, rfl⟩
          rw [htx] at hj
          rw [hS] at hW2
          have FO := Lib.hid (fun W => frame_any 1 (P : Int) (s.extract P (P + z)) W)
          have PU := Lib.hid (fun W (H : Mux.Ends W g d r) => put_any g d r ⟨1, (P : Int), s.extract P (P + z)⟩ W H 0 hc D hD)
          have RD := Lib.hid (fun W (H : Mux.Ends W g D r) => read_any g D r hO2 1 W H tx htx 0 rfl S hS)
          rw [er_0] at PU RD
          unfold val at PU FO
          have HW2 := Lib.hid hW2
          have HCV := Lib.hid hcov
          have hxz := ext_size s (e := q2) hq2
          obtain ⟨X, hX⟩ : ∃ X, s.extract 0 q2 = X := ⟨_, rfl⟩
          rw [hX] at hj hxz
          have hxz2 : (X.size : Int) = (q2 : Int) := by rw [hxz]
          have HX := Lib.hid hX
          have u7 : (X.toList == X.toList) = true := by simp
          have u8 : (X.toList != X.toList) = false := by simp
          have u9 : decide ((q2 : Int) > (T : Int)) = false := decide_eq_false (by rw [HT.out] at hq2; omega)
          have hq3 : q2 ≤ T := by rw [HT.out] at hq2; exact hq2
          have hpe : P ≤ P + z := by omega
          have hes : P + z ≤ s.size := by rw [HT.out]; omega
          have hqs : q2 ≤ s.size := hq2
          have hgs : (s.extract 0 q).size + tx.size ≤ 9223372036854775807 := by rw [← ByteArray.size_append, hj, hxz]; omega
          generalize s.extract 0 q = G at hj hgs ⊢
          have hgs2 : ¬ (9223372036854775807 < G.size + tx.size) := by omega
          obtain ⟨pc, hpc⟩ : ∃ pc, s.extract P (P + z) = pc := ⟨_, rfl⟩
          rw [hpc] at FO PU
          clear hc hq2 hW2 hth hD htx hS hcov hO2 hxz
          go_wp2_with fail
          refine (IK.out _).mono ?_; rintro e wk ⟨rfl, rfl⟩
          go_wp2_with fail
          refine (FO.out _).mono ?_; rintro e w6 ⟨rfl, hb⟩
          have HE6 := Lib.hid (HE.out.below hb)
          have HG6 := Lib.hid (gtrans HGR.out (gbel hb))
          clear hb FO HE HGR
          go_wp2_with fail
          refine (PU.out _ HE6.out).mono ?_; rintro e w7 ⟨rfl, hE, hg⟩
          have HE7 := Lib.hid hE
          have HG7 := Lib.hid (gtrans HG6.out hg)
          clear hE hg HE6 HG6 PU
          go_wp2_with fail
          refine (RD.out _ HE7.out).mono ?_; rintro e w8 ⟨rfl, hE, hg⟩
          have HE8 := Lib.hid hE
          have HG8 := Lib.hid (gtrans HG7.out hg)
          clear hE hg HE7 HG7 RD
          go_wp2_with fail
          go_roundw
          case rel => exact ⟨i + 1, q2, D, S, by omega, hq3, by first | rfl | go_num, by rw [HX.out], HE8, HW2, HCV, HG8⟩
          case measure => simp [intOf]; omega

    · obtain rfl : i = n + M := by omega
      have u1 : decide (((n + M : Nat) : Int) < (n : Int) + (M : Int)) = false := decide_eq_false (by omega)
      obtain ⟨e1, e2, e3, e4⟩ := HW.out.ends HS200.out HT200.out (by
        have hC := HC.out
        rw [Nat.add_sub_cancel_left, ← HM.out] at hC
        have h5 := Cov.all HZ1.out hC
        rw [← HT.out] at h5
        exact h5)
      rw [HT.out] at e1
      subst e1
      have hx : s.extract 0 q = s := by rw [← HT.out]; exact ext_all s
      rw [hx]
      have HO2 : Hid (Okm d (readR d r 2)) := Lib.hid (HW.out.okm.read 2)
      have R := Lib.hid (fun W (H : Mux.Ends W g d r) => read_any g d r HW.out.okm 2 W H t e2 0 rfl _ rfl)
      have W1 := Lib.hid (fun W (H : Mux.Ends W g d (readR d r 2)) => waits_any g d _ 1 W H HO2.out 0 e3)
      have W2 := Lib.hid (fun W (H : Mux.Ends W g d (readR d r 2)) => waits_any g d _ 2 W H HO2.out 0 e4)
      rw [er_0] at R
      generalize readR d r 2 = S at R W1 W2 HO2
      have HB5 := Lib.hid (gb HB4.out HGR.out HG.out)
      have u5 : (s.toList == s.toList) = true := by simp
      have u6 : (t.toList == t.toList) = true := by simp
      clear e2 e3 e4 hx HO2 HGR HB4 HC HI4 HG2 HW
      go_wp2_with fail
      refine (R.out _ HE.out).mono ?_; rintro e w6 ⟨rfl, hE, hg⟩
      have HE6 := Lib.hid hE
      have HB6 := Lib.hid (gb HB5.out hg HG.out)
      clear hE hg HE HB5 R
      go_wp2_with fail
      refine (W1.out _ HE6.out).mono ?_; rintro e w7 ⟨rfl, hb⟩
      have HE7 := Lib.hid (HE6.out.below hb)
      have HB7 := Lib.hid (bcall HB6.out hb)
      clear hb HE6 HB6 W1
      go_wp2_with fail
      refine (W2.out _ HE7.out).mono ?_; rintro e w8 ⟨rfl, hb⟩
      have HB8 := Lib.hid (bcall HB7.out hb)
      clear hb HE7 HB7 W2
      go_wp2_with fail
      go_ret
      exact ⟨rfl, HB8.out⟩


theorem law_any (s t : ByteArray) (z : Int) (p : Option Addr) (cap : Nat) (o : List Int) (w : World) (ho : Ints w p cap o) (hn : o.length ≤ 1048576) : Law s t z p cap o w := by
  by_cases h0 : 200 < s.size
  · exact law_long s t z p cap o w h0
  by_cases h1 : 200 < t.size
  · exact law_long2 s t z p cap o w (by omega) h1
  by_cases h2 : 1 ≤ z ∧ z ≤ 200
  · obtain ⟨n, rfl⟩ : ∃ n : Nat, z = (n : Int) := ⟨z.toNat, by omega⟩
    exact law_good s t n p cap o w (by omega) (by omega) (by omega) (by omega) ho hn
  · exact law_size s t z p cap o w (by omega) (by omega) h2

theorem reads : Try.f3.params.toList.all (fun t => Try.prog.readableRec t && decide (t < Try.prog.types.size)) = true := by kernel_rfl

theorem contract (H : Type) (enc : TypeId × Value → H) (W : World) (base : Nat) (args : Array Value) (ds gs : List (DataW H)) (before : List MemPlace)
    (hval : ∀ (j : Nat) t v, Try.f3.params[j]? = some t → args[j]? = some v → Value.okWide Try.prog W .any base t v)
    (hW : DataW.Whole enc Try.prog Try.f3.params.toList Rows.muxWholeSpec.vars false W args.toList ds gs before) (hk : Rows.uptoSmall H (ds ++ gs) = true) :
    Calls Try.prog 3 args W fun e W' => ∃ v, e = .returned v ∧ Rows.muxWholeSpec.post enc Try.prog Try.f3 false true false false W args v W' := by
  have hW' := hW
  obtain ⟨p, q, hA0, hV, rfl, hfz, hnd⟩ := hW
  have hA : DataW.TrodAll enc Try.prog W 0 (fun _ => true) true Try.f3.params.toList args.toList ds p := hA0
  have hlt := hA.lt
  rw [Try.params3] at hA hval
  obtain ⟨v0, vs0, d0, ds0, p0, q0, hargs, rfl, rfl, h0, r0⟩ := trodAll_cons hA
  obtain ⟨v1, vs1, d1, ds1, p1, q1, hvs1, rfl, rfl, h1, r1⟩ := trodAll_cons r0
  obtain ⟨v2, vs2, d2, ds2, p2, q2, hvs2, rfl, rfl, h2, r2⟩ := trodAll_cons r1
  obtain ⟨v3, vs3, d3, ds3, p3, q3, hvs3, rfl, rfl, h3, r3⟩ := trodAll_cons r2
  obtain ⟨hvsn, rfl, rfl⟩ := trodAll_nil r3
  simp only [hvsn, hvs3, hvs2, hvs1] at hargs
  obtain rfl : args = #[v0, v1, v2, v3] := by cases args; simp_all
  obtain ⟨rfl, rfl⟩ := trodVars_none hV
  clear hA0
  obtain ⟨s0, rfl, rfl, rfl, z0⟩ := Go.ChangeMaps.open_string Try.underlying9 (hval 0 9 v0 rfl rfl) h0
  obtain ⟨s1, rfl, rfl, rfl, z1⟩ := Go.ChangeMaps.open_string Try.underlying9 (hval 1 9 v1 rfl rfl) h1
  obtain ⟨a2, rfl, rfl, rfl, w2⟩ := open_int Try.underlying3 (hval 2 3 v2 rfl rfl) h2
  have b2 := bounds_int w2
  obtain ⟨p3a, cap3, l3, rfl, i3, e3⟩ := open_intse Try.underlying22 Try.underlying3 (by kernel_rfl) (hval 3 22 v3 rfl rfl) h3 (fun x hx => hlt x (by simp [hx]))
  exact law_post 4 laid reads rfl Try.underlying4 rfl hW' ⟨rfl, rfl, rfl⟩ (law_any s0 s1 a2 p3a cap3 l3 W i3 (small_at (by simp) hk e3))

set_option maxRecDepth 100000 in
theorem lifted (os : Os) (started : os.Started) (H : Type) (enc : TypeId × Value → H) (F : Stop.Interp) :
    ReturnsInHanded {} Try.checked os 3 .any ((Rows.OpenSpec.upto Rows.muxWholeSpec).pre6 enc Try.prog Try.f3 Rows.muxWholeUptoRow.domain false) (((Rows.OpenSpec.upto Rows.muxWholeSpec).at F).post enc Try.prog Try.f3 false true false false) := by
  refine returnsInHanded_of_cond (C := Try.checked) (s := Rows.OpenSpec.upto Rows.muxWholeSpec) (k := Rows.uptoSmall) rfl own started (by kernel_rfl) Try.func3
    (OpenSpec.witness (enc := enc) (C := Try.checked) (s := Rows.OpenSpec.upto Rows.muxWholeSpec) (k := Rows.uptoSmall) rfl false ⟨#[], #[.string .empty, .string .empty, .int .i64 0, .slice none 0 0], []⟩ 8 (by kernel_rfl) (by kernel_rfl) (by kernel_rfl)
      (x := ([.lit (.string []), .lit (.string []), .lit (.int .i64 0), .nil], [], [])) (by kernel_rfl) rfl (by kernel_rfl)) ?_
  intro W base args ds gs before hval hW _ hk _
  exact contract H enc W base args ds gs before hval hW hk

theorem proved : Rows.MuxWholeUptoSaid :=
  OpenClaim.holds_of_cond 3 Try.f3 rfl rfl rfl rfl rfl rfl rfl ⟨rfl, rfl, rfl, rfl, rfl⟩ rfl rfl rfl rfl rfl (by kernel_rfl) Try.func3 (by kernel_rfl)
    (of_decide_eq_true (by kernel_rfl)) (by unfold Func.isWrapper; first | (rw [if_pos (by decide +kernel)]; kernel_rfl) | (rw [if_neg (by decide +kernel)]; exact ⟨rfl, rfl⟩))
    (fun os started H enc _ F => lifted os started H enc F)
end Go.Proofs.Ytcleanjacijfoaa.MuxWholeL
