/- In no time is more taken than one bucket and what fell in: the law returns true for every input. No condition. -/
import Derived.Test.YtegbnldgbfbaaaaBucketSt
import Derived.Test.YtegbnldgbfbaaaaBucketFact
import Derived.Test.YtegbnldgbfbaaaaRows0
import Derived.Deep.RegionHeld3
namespace Go.Proofs.Ytegbnldgbfbaaaa.BucketBoundL
open Go.ChangeShapes Go.WideShapes Go.ChangeAt Go.RowKit Go.Proofs.Ytegbnldgbfbaaaa.Kit Go.Proofs.Ytegbnldgbfbaaaa.App Go.Proofs.Ytegbnldgbfbaaaa.Err Go.Proofs.Ytegbnldgbfbaaaa.Bucket
set_option linter.unusedVariables false
set_option maxRecDepth 20000

abbrev Law (r d : Int) (p : Option Addr) (n cap : Nat) (w : World) : Prop := Calls Try.prog 3 #[.int .i64 r, .int .i64 d, .slice p n cap] w fun e w' => e = .returned (.bool true) ∧ Below w.heap.size w w'
theorem law_bad (r d : Int) (p : Option Addr) (n cap : Nat) (w : World) (h : ¬ ((0 ≤ r ∧ r ≤ 20) ∧ (0 ≤ d ∧ d ≤ 100))) : Law r d p n cap w := by
  have FA := Lib.hid (fact_any w)
  have NW := Lib.hid (fun W => new_bad r d W h)
  rw [er_1] at NW
  by_cases h1 : 0 ≤ r ∧ r ≤ 20
  · have IN := Lib.hid (fun W => Go.Proofs.Ytegbnldgbfbaaaa.Rtt.in_any r 0 20 W true (in_true h1))
    have IN2 := Lib.hid (fun W => Go.Proofs.Ytegbnldgbfbaaaa.Rtt.in_any d 0 100 W false (in_false (fun h2 => h ⟨h1, h2⟩)))
    clear h h1
    unfold Law
    go_enter Try.func3, Try.ntmps3
    go_wp2_with fail
    refine FA.out.mono ?_; rintro e w1 ⟨rfl, hb1⟩
    go_wp2_with fail
    refine (NW.out w1).mono ?_; rintro e w2 ⟨rfl, rfl⟩
    go_wp2_with fail
    refine (IN.out _).mono ?_; rintro e w3 ⟨rfl, rfl⟩
    go_wp2_with fail
    refine (IN2.out _).mono ?_; rintro e w3 ⟨rfl, rfl⟩
    go_wp2_with fail
    go_ret
    exact ⟨rfl, hb1⟩
  · have IN := Lib.hid (fun W => Go.Proofs.Ytegbnldgbfbaaaa.Rtt.in_any r 0 20 W false (in_false h1))
    clear h h1
    unfold Law
    go_enter Try.func3, Try.ntmps3
    go_wp2_with fail
    refine FA.out.mono ?_; rintro e w1 ⟨rfl, hb1⟩
    go_wp2_with fail
    refine (NW.out w1).mono ?_; rintro e w2 ⟨rfl, rfl⟩
    go_wp2_with fail
    refine (IN.out _).mono ?_; rintro e w3 ⟨rfl, rfl⟩
    go_wp2_with fail
    go_ret
    exact ⟨rfl, hb1⟩
set_option maxHeartbeats 4000000 in
theorem law_good (r d : Int) (p0 : Option Addr) (n cap : Nat) (ls : List (List Int)) (w : World) (hn : n = ls.length) (hR : RowsI w p0 cap ls) (h0 : (0 ≤ r ∧ r ≤ 20) ∧ (0 ≤ d ∧ d ≤ 100)) : Law r d p0 n cap w := by
  have FA := Lib.hid (fact_any w)
  have NW := Lib.hid (fun W => new_good r d W h0)
  have HO0 := Lib.hid (ok_new h0)
  have HR := Lib.hid hR
  have hcap := hR.len_le
  rw [← hn] at hcap
  have HN := Lib.hid hn
  obtain ⟨⟨r1, r2⟩, d1, d2⟩ := h0
  clear hn hR
  unfold Law
  go_enter Try.func3, Try.ntmps3
  go_wp2_with fail
  refine FA.out.mono ?_; rintro e w1 ⟨rfl, hb1⟩
  clear FA
  go_wp2_with fail
  refine (NW.out w1).mono ?_; rintro e w2 ⟨rfl, hT2, hb2⟩
  have HM0 := Lib.hid (Mem.new hT2 (bcall hb1 hb2) hb1.size)
  clear hb1 hb2 hT2 NW
  generalize w1.heap.size = g at HM0 ⊢
  generalize w2.heap.size = B at HM0
  go_wp2_with fail
  have HK0 := Lib.hid (took_nil r d d 0)
  go_loopw [10, 11, 12] (fun av bv iv wr => ∃ (k : Nat) (v1 v2 : Value), v1 = av ∧ v2 = bv ∧ iv = .int .i64 (k : Int) ∧ k ≤ n ∧ k ≤ 60 ∧ ∃ h t A M, A.length ≤ k ∧ M.length ≤ k ∧ Hid (Mem w wr B g r d h t A M v1 v2) ∧ Hid (Ok r d h t) ∧ Hid (Took r d h t A M)) (fun _ _ i _ => n - (intOf i).toNat)
  case atStart => exact ⟨0, _, _, rfl, rfl, rfl, Nat.zero_le _, Nat.zero_le _, d, 0, [], [], by simp, by simp, HM0, HO0, HK0⟩
  case round =>
    obtain ⟨k, v1, v2, rfl, rfl, rfl, hk, hk6, h, t, A, M, hA, hM60, HM, HO, HK⟩ := hrel
    clear HM0 HO0 HK0
    by_cases hkn : k < n
    · have t1 : decide ((k : Int) < (n : Int)) = true := decide_eq_true (by omega)
      by_cases hk60 : k < 60
      · have t2 : decide ((k : Int) < 60) = true := decide_eq_true (by omega)
        obtain ⟨d0, off0, rfl, hd0, hrow⟩ := HR.out.2.2 (by have := HN.out; omega)
        obtain ⟨qr, cr, hq, hI⟩ := hrow k (by have := HN.out; omega)
        generalize ls[k]?.getD [] = row at hq hI
        clear hrow
        by_cases h2 : row.length = 2
        · rw [h2] at hq
          obtain ⟨bb, off, rfl, hbb, hcs⟩ := hI.2.2.2 (by omega)
          have c0 := hcs 0 (by omega)
          have c1 := hcs 1 (by omega)
          have wx := hI.2.2.1 0
          have wy := hI.2.2.1 1
          generalize row[0]?.getD 0 = x at c0 wx
          generalize row[1]?.getD 0 = y at c1 wy
          have K := Lib.hid (fun W (hW : Below w.heap.size w W) => (⟨(hW.cell (p := ⟨d0, off0 + k, none⟩) hd0).trans hq, (hW.cell (p := ⟨bb, off, none⟩) hbb).trans c0, (hW.cell (p := ⟨bb, off + 1, none⟩) hbb).trans c1⟩ : W.cell? ⟨d0, off0 + k, none⟩ = some (.slice (some ⟨bb, off, none⟩) 2 cr) ∧ W.cell? ⟨bb, off, none⟩ = some (.int .i64 x) ∧ W.cell? ⟨bb, off + 1, none⟩ = some (.int .i64 y)))
          have HWX := Lib.hid wx
          have HWY := Lib.hid wy
          clear hcs hI hbb h2 hq hd0 c0 c1 wx wy row
          obtain ⟨k0, k1, k2⟩ := K.out wr HM.out.bel
          by_cases hG : GoodT t x y
          · by_cases hf : y ≤ fill d h (r * (x - t))
            · have C := Lib.hid (take_yes g r d h t x y HO.out hG hf wr.drew HM.out.bkt)
              have HO4 := Lib.hid (ok_take (ok_fill HO.out hG) hG.1.2.1 hf)
              have hF := ok_fill HO.out hG
              have HK4 := Lib.hid ((HK.out.wait hG.2).take ⟨hG.1.2.1, hf⟩ hF.2.2.2.2.2.1 hF.2.2.2.1 hG.1.1.1 hF.1)
              generalize fill d h (r * (x - t)) - y = h4 at C HO4 HK4
              clear hG hf hF
              have HMd := Lib.hid (HM.out.drewN 1)
              change Hid (Mem w wr.drew B g r d h t A M v1 v2) at HMd
              clear HM HO HK
              go_wp2_with fail
              go_region_held3 (fun W' => W'.cell? ⟨d0, off0 + k, none⟩ = some (.slice (some ⟨bb, off, none⟩) 2 cr) ∧ W'.cell? ⟨bb, off, none⟩ = some (.int .i64 x) ∧ W'.cell? ⟨bb, off + 1, none⟩ = some (.int .i64 y))
                (first
                  | exact ⟨k0, k1, k2⟩
                  | exact K.out _ HM8.out.bel
                  | go_keep)
                (first
                  | (go_at_call 8; refine C.out.mono ?_; rintro e w8 ⟨rfl, hT8, hg8⟩
                     have HM8 := Lib.hid (HMd.out.call hT8 hg8)
                     clear hT8 hg8))
              clear C k0 k1 k2 HMd
              obtain ⟨k0, k1, k2⟩ := K.out w8 HM8.out.bel
              go_wp2_with (first
                | (at_builtin
                   refine wp_app rfl (.tmp 75) (.tmp 82) rfl B _ A (some ⟨w8.heap.size, 0, none⟩) 1 1 [x] rfl (HM8.out.o1.alloc _) rfl rfl (Ints.one w8 x HWX.out) (by rw [List.length_singleton]; omega) (Nat.le_trans HM8.out.siz (by simp)) ?_
                   intro va wa ho1 hg1 ht1
                   have HMa := Lib.hid ((HM8.out.alloc _).app1 ho1 hg1 ht1)
                   obtain ⟨k0, k1, k2⟩ := K.out wa HMa.out.bel
                   clear ho1 hg1 ht1)
                | (at_builtin
                   refine wp_app rfl (.tmp 84) (.tmp 91) rfl B _ M (some ⟨wa.heap.size, 0, none⟩) 1 1 [y] rfl (HMa.out.o2.alloc _) rfl rfl (Ints.one wa y HWY.out) (by rw [List.length_singleton]; omega) (Nat.le_trans HMa.out.siz (by simp)) ?_
                   intro vb wb ho2 hg2 ht2
                   have HMb := Lib.hid ((HMa.out.alloc _).app2 ho2 hg2 ht2)
                   clear ho2 hg2 ht2))
              go_roundw
              case rel => exact ⟨k + 1, _, _, rfl, rfl, by first | rfl | go_num, by omega, by omega, h4, x, A ++ [x], M ++ [y], by first | omega | (simp; omega), by first | omega | (simp; omega), HMb, HO4, HK4⟩
              case measure => simp [intOf]; omega
            · have C := Lib.hid (take_less g r d h t x y HO.out hG hf wr.drew HM.out.bkt)
              have HO4 := Lib.hid (ok_fill HO.out hG)
              have HK4 := Lib.hid (HK.out.wait hG.2)
              generalize fill d h (r * (x - t)) = h4 at C HO4 HK4
              clear hG hf
              have HMd := Lib.hid (HM.out.drewN 1)
              change Hid (Mem w wr.drew B g r d h t A M v1 v2) at HMd
              clear HM HO HK
              go_wp2_with fail
              go_region_held3 (fun W' => W'.cell? ⟨d0, off0 + k, none⟩ = some (.slice (some ⟨bb, off, none⟩) 2 cr) ∧ W'.cell? ⟨bb, off, none⟩ = some (.int .i64 x) ∧ W'.cell? ⟨bb, off + 1, none⟩ = some (.int .i64 y))
                (first
                  | exact ⟨k0, k1, k2⟩
                  | exact K.out _ HM8.out.bel
                  | go_keep)
                (first
                  | (go_at_call 8; refine C.out.mono ?_; rintro e w8 ⟨rfl, hT8, hg8⟩
                     have HM8 := Lib.hid (HMd.out.call hT8 hg8)
                     clear hT8 hg8))
              clear C k0 k1 k2 HMd
              go_wp2_with fail
              go_roundw
              case rel => exact ⟨k + 1, _, _, rfl, rfl, by first | rfl | go_num, by omega, by omega, h4, x, A, M, by first | omega | (simp; omega), by first | omega | (simp; omega), HM8, HO4, HK4⟩
              case measure => simp [intOf]; omega
          · obtain ⟨c, hc, hC⟩ := take_not g r d h t x y hG
            have C := Lib.hid (hC wr.drew HM.out.bkt)
            have HO4 := HO
            have HK4 := HK
            clear hG hc hC
            have HMd := Lib.hid (HM.out.drewN 1)
            change Hid (Mem w wr.drew B g r d h t A M v1 v2) at HMd
            clear HM HO HK
            go_wp2_with fail
            go_region_held3 (fun W' => W'.cell? ⟨d0, off0 + k, none⟩ = some (.slice (some ⟨bb, off, none⟩) 2 cr) ∧ W'.cell? ⟨bb, off, none⟩ = some (.int .i64 x) ∧ W'.cell? ⟨bb, off + 1, none⟩ = some (.int .i64 y))
              (first
                | exact ⟨k0, k1, k2⟩
                | exact K.out _ HM8.out.bel
                | go_keep)
              (first
                | (go_at_call 8; refine C.out.mono ?_; rintro e w8 ⟨rfl, rfl⟩
                   have HM8 := HMd))
            clear C k0 k1 k2 HMd
            go_wp2_with fail
            go_roundw
            case rel => exact ⟨k + 1, _, _, rfl, rfl, by first | rfl | go_num, by omega, by omega, h, t, A, M, by first | omega | (simp; omega), by first | omega | (simp; omega), HM8, HO4, HK4⟩
            case measure => simp [intOf]; omega
        · have hrl : row.length ≤ 9223372036854775807 := hI.len_le
          have hq' := (HM.out.bel.cell (p := ⟨d0, off0 + k, none⟩) hd0).trans hq
          obtain ⟨m, hm⟩ : ∃ m, row.length = m := ⟨_, rfl⟩
          rw [hm] at hq' h2 hrl
          have t3 : ((m : Int) != 2) = true := by rw [bne_iff_ne]; omega
          have HO4 := HO
          have HK4 := HK
          clear hm hI hq hd0
          go_wp2_with fail
          go_roundw
          case rel => exact ⟨k + 1, _, _, rfl, rfl, by first | rfl | go_num, by omega, by omega, h, t, A, M, by first | omega | (simp; omega), by first | omega | (simp; omega), HM, HO4, HK4⟩
          case measure => simp [intOf]; omega
      · have t2 : decide ((k : Int) < 60) = false := decide_eq_false (by omega)
        obtain ⟨pa, ca, rfl, hia⟩ := HM.out.o1.form
        obtain ⟨pm, cm, rfl, him⟩ := HM.out.o2.form
        have HB := Lib.hid HM.out.bel
        obtain ⟨N, hN⟩ : ∃ N, A.length = N := ⟨_, rfl⟩
        have hM : M.length = N := HK.out.len.trans hN
        have HIA := Lib.hid hia
        have HIM := Lib.hid him
        have HA := Lib.hid hN
        have HMN := Lib.hid hM
        rw [hN] at hA
        rw [hN, hM]
        clear hia him hN hM hM60 HM
        go_wp2_with fail
        go_loopw [15] (fun iv wr => ∃ i : Nat, iv = .int .i64 (i : Int) ∧ i ≤ N ∧ Hid (Ints wr pa ca A) ∧ Hid (Ints wr pm cm M) ∧ Hid (Below w.heap.size w wr)) (fun i _ => N - (intOf i).toNat)
        case atStart => exact ⟨0, rfl, Nat.zero_le _, HIA, HIM, HB⟩
        case round =>
          obtain ⟨i, rfl, hi, HIA1, HIM1, HB1⟩ := hrel
          clear HIA HIM HB
          by_cases hiN : i < N
          · have u1 : decide ((i : Int) < (N : Int)) = true := decide_eq_true (by omega)
            obtain ⟨ba, oa, rfl⟩ := some_ints HIA1.out (by have := HA.out; omega)
            obtain ⟨bm, om, rfl⟩ := some_ints HIM1.out (by have := HMN.out; omega)
            go_wp2_with fail
            generalize wr = w9 at HIA1 HIM1 HB1 ⊢
            go_loopw [16, 17] (fun sv kv wr => ∃ (s : Int) (k : Nat), sv = .int .i64 s ∧ kv = .int .i64 (k : Int) ∧ i ≤ k ∧ k ≤ N ∧ Hid (s = ((M.drop i).take (k - i)).sum) ∧ Hid (Ints wr (some ⟨ba, oa, none⟩) ca A) ∧ Hid (Ints wr (some ⟨bm, om, none⟩) cm M) ∧ Hid (Below w.heap.size w wr)) (fun _ k _ => N - (intOf k).toNat)
            case atStart => exact ⟨0, i, rfl, rfl, Nat.le_refl _, hi, Lib.hid (by simp), HIA1, HIM1, HB1⟩
            case round =>
              obtain ⟨s, k, rfl, rfl, hik, hk, HS, HIA2, HIM2, HB2⟩ := hrel
              clear HIA1 HIM1 HB1
              by_cases hkN : k < N
              · have u2 : decide ((k : Int) < (N : Int)) = true := decide_eq_true (by omega)
                have hsb := sum_in M 0 (fun j hj => (HK.out.num j (by have := HA.out; have := HMN.out; omega)).2.2) i k hik (by have := HMN.out; omega)
                have hal := HK.out.all i k hik (by have := HA.out; omega)
                rw [sum_step i hik (by have := HMN.out; omega)] at hal
                have ha1 := HK.out.num k (by have := HA.out; omega)
                have ha2 := HK.out.num i (by have := HA.out; omega)
                have ca1 := cell_ints HIA2.out k (by have := HA.out; omega)
                have ca2 := cell_ints HIA2.out i (by have := HA.out; omega)
                have cm1 := cell_ints HIM2.out k (by have := HMN.out; omega)
                have hs := HS.out
                rw [← hs] at hsb hal
                have HS2 : Hid (s + M[k]?.getD 0 = ((M.drop i).take (k + 1 - i)).sum) := Lib.hid (by rw [sum_step i hik (by have := HMN.out; omega), ← hs])
                obtain ⟨o1, o2, o3, o4, o5, o6, o7, o8⟩ := HO.out
                generalize M[k]?.getD 0 = mk at hal ha1 cm1 HS2
                generalize A[k]?.getD 0 = xk at hal ha1 ca1
                generalize A[i]?.getD 0 = xi at hal ha2 ca2
                obtain ⟨x1, x2, m1, m2⟩ := ha1
                obtain ⟨y1, y2, y3, y4⟩ := ha2
                obtain ⟨s1, s2⟩ := hsb
                obtain ⟨p1, p2⟩ := prod_both (m := xk - xi) (M := 1000) o1 o2 (by omega) (by omega)
                have s2 : s ≤ 6000 := by omega
                have u3 : decide (d + r * (xk - xi) < s + mk) = false := decide_eq_false (by omega)
                clear hs HS hal o5 o6
                go_wp2_with fail
                go_quiet (fail)
                go_wp2_with fail
                go_roundw
                case rel => exact ⟨s + mk, k + 1, rfl, by first | rfl | go_num, by omega, by omega, HS2, HIA2, HIM2, Lib.hid (bdrewN HB2.out nq)⟩
                case measure => simp [intOf]; omega
              · have u2 : decide ((k : Int) < (N : Int)) = false := decide_eq_false (by omega)
                go_wp2_with fail
                go_roundw
                case rel => exact ⟨i + 1, by first | rfl | go_num, by omega, HIA2, HIM2, HB2⟩
                case measure => simp [intOf]; omega
          · have u1 : decide ((i : Int) < (N : Int)) = false := decide_eq_false (by omega)
            go_wp2_with fail
            go_ret
            exact ⟨rfl, HB1.out⟩
    · have t1 : decide ((k : Int) < (n : Int)) = false := decide_eq_false (by omega)
      obtain ⟨pa, ca, rfl, hia⟩ := HM.out.o1.form
      obtain ⟨pm, cm, rfl, him⟩ := HM.out.o2.form
      have HB := Lib.hid HM.out.bel
      obtain ⟨N, hN⟩ : ∃ N, A.length = N := ⟨_, rfl⟩
      have hM : M.length = N := HK.out.len.trans hN
      have HIA := Lib.hid hia
      have HIM := Lib.hid him
      have HA := Lib.hid hN
      have HMN := Lib.hid hM
      rw [hN] at hA
      rw [hN, hM]
      clear hia him hN hM hM60 HM
      go_wp2_with fail
      go_loopw [15] (fun iv wr => ∃ i : Nat, iv = .int .i64 (i : Int) ∧ i ≤ N ∧ Hid (Ints wr pa ca A) ∧ Hid (Ints wr pm cm M) ∧ Hid (Below w.heap.size w wr)) (fun i _ => N - (intOf i).toNat)
      case atStart => exact ⟨0, rfl, Nat.zero_le _, HIA, HIM, HB⟩
      case round =>
        obtain ⟨i, rfl, hi, HIA1, HIM1, HB1⟩ := hrel
        clear HIA HIM HB
        by_cases hiN : i < N
        · have u1 : decide ((i : Int) < (N : Int)) = true := decide_eq_true (by omega)
          obtain ⟨ba, oa, rfl⟩ := some_ints HIA1.out (by have := HA.out; omega)
          obtain ⟨bm, om, rfl⟩ := some_ints HIM1.out (by have := HMN.out; omega)
          go_wp2_with fail
          generalize wr = w9 at HIA1 HIM1 HB1 ⊢
          go_loopw [16, 17] (fun sv kv wr => ∃ (s : Int) (k : Nat), sv = .int .i64 s ∧ kv = .int .i64 (k : Int) ∧ i ≤ k ∧ k ≤ N ∧ Hid (s = ((M.drop i).take (k - i)).sum) ∧ Hid (Ints wr (some ⟨ba, oa, none⟩) ca A) ∧ Hid (Ints wr (some ⟨bm, om, none⟩) cm M) ∧ Hid (Below w.heap.size w wr)) (fun _ k _ => N - (intOf k).toNat)
          case atStart => exact ⟨0, i, rfl, rfl, Nat.le_refl _, hi, Lib.hid (by simp), HIA1, HIM1, HB1⟩
          case round =>
            obtain ⟨s, k, rfl, rfl, hik, hk, HS, HIA2, HIM2, HB2⟩ := hrel
            clear HIA1 HIM1 HB1
            by_cases hkN : k < N
            · have u2 : decide ((k : Int) < (N : Int)) = true := decide_eq_true (by omega)
              have hsb := sum_in M 0 (fun j hj => (HK.out.num j (by have := HA.out; have := HMN.out; omega)).2.2) i k hik (by have := HMN.out; omega)
              have hal := HK.out.all i k hik (by have := HA.out; omega)
              rw [sum_step i hik (by have := HMN.out; omega)] at hal
              have ha1 := HK.out.num k (by have := HA.out; omega)
              have ha2 := HK.out.num i (by have := HA.out; omega)
              have ca1 := cell_ints HIA2.out k (by have := HA.out; omega)
              have ca2 := cell_ints HIA2.out i (by have := HA.out; omega)
              have cm1 := cell_ints HIM2.out k (by have := HMN.out; omega)
              have hs := HS.out
              rw [← hs] at hsb hal
              have HS2 : Hid (s + M[k]?.getD 0 = ((M.drop i).take (k + 1 - i)).sum) := Lib.hid (by rw [sum_step i hik (by have := HMN.out; omega), ← hs])
              obtain ⟨o1, o2, o3, o4, o5, o6, o7, o8⟩ := HO.out
              generalize M[k]?.getD 0 = mk at hal ha1 cm1 HS2
              generalize A[k]?.getD 0 = xk at hal ha1 ca1
              generalize A[i]?.getD 0 = xi at hal ha2 ca2
              obtain ⟨x1, x2, m1, m2⟩ := ha1
              obtain ⟨y1, y2, y3, y4⟩ := ha2
              obtain ⟨s1, s2⟩ := hsb
              obtain ⟨p1, p2⟩ := prod_both (m := xk - xi) (M := 1000) o1 o2 (by omega) (by omega)
              have s2 : s ≤ 6000 := by omega
              have u3 : decide (d + r * (xk - xi) < s + mk) = false := decide_eq_false (by omega)
              clear hs HS hal o5 o6
              go_wp2_with fail
              go_quiet (fail)
              go_wp2_with fail
              go_roundw
              case rel => exact ⟨s + mk, k + 1, rfl, by first | rfl | go_num, by omega, by omega, HS2, HIA2, HIM2, Lib.hid (bdrewN HB2.out nq)⟩
              case measure => simp [intOf]; omega
            · have u2 : decide ((k : Int) < (N : Int)) = false := decide_eq_false (by omega)
              go_wp2_with fail
              go_roundw
              case rel => exact ⟨i + 1, by first | rfl | go_num, by omega, HIA2, HIM2, HB2⟩
              case measure => simp [intOf]; omega
        · have u1 : decide ((i : Int) < (N : Int)) = false := decide_eq_false (by omega)
          go_wp2_with fail
          go_ret
          exact ⟨rfl, HB1.out⟩

theorem reads : Try.f3.params.toList.all (fun t => Try.prog.readableRec t && decide (t < Try.prog.types.size)) = true := by kernel_rfl

theorem contract (H : Type) (enc : TypeId × Value → H) (W : World) (base : Nat) (args : Array Value) (ds gs : List (DataW H)) (before : List MemPlace)
    (hval : ∀ (j : Nat) t v, Try.f3.params[j]? = some t → args[j]? = some v → Value.okWide Try.prog W .any base t v)
    (hW : DataW.Whole enc Try.prog Try.f3.params.toList Rows.bucketBoundSpec.vars false W args.toList ds gs before) :
    Calls Try.prog 3 args W fun e W' => ∃ v, e = .returned v ∧ Rows.bucketBoundSpec.post enc Try.prog Try.f3 false true false false W args v W' := by
  have hW' := hW
  obtain ⟨p, q, hA0, hV, rfl, hfz, hnd⟩ := hW
  have hA : DataW.TrodAll enc Try.prog W 0 (fun _ => true) true Try.f3.params.toList args.toList ds p := hA0
  have hlt := hA.lt
  rw [Try.params3] at hA hval
  obtain ⟨v0, vs0, d0, ds0, p0, q0, hargs, rfl, rfl, h0, r0⟩ := trodAll_cons hA
  obtain ⟨v1, vs1, d1, ds1, p1, q1, hvs1, rfl, rfl, h1, r1⟩ := trodAll_cons r0
  obtain ⟨v2, vs2, d2, ds2, p2, q2, hvs2, rfl, rfl, h2, r2⟩ := trodAll_cons r1
  obtain ⟨hvsn, rfl, rfl⟩ := trodAll_nil r2
  simp only [hvsn, hvs2, hvs1] at hargs
  obtain rfl : args = #[v0, v1, v2] := by cases args; simp_all
  obtain ⟨rfl, rfl⟩ := trodVars_none hV
  clear hA0
  obtain ⟨a0, rfl, rfl, rfl, w0⟩ := open_int Try.underlying3 (hval 0 3 v0 rfl rfl) h0
  have b0 := bounds_int w0
  obtain ⟨a1, rfl, rfl, rfl, w1⟩ := open_int Try.underlying3 (hval 1 3 v1 rfl rfl) h1
  have b1 := bounds_int w1
  obtain ⟨p2a, cap2, l2, rfl, i2, e2⟩ := open_rows Try.underlying22 Try.underlying30 Try.underlying3 (by kernel_rfl) (by kernel_rfl) (hval 2 22 v2 rfl rfl) h2 (fun x hx => hlt x (by simp [hx]))
  exact law_post 4 laid reads rfl Try.underlying4 rfl hW' ⟨rfl, rfl, rfl⟩ (by
    by_cases h : (0 ≤ a0 ∧ a0 ≤ 20) ∧ (0 ≤ a1 ∧ a1 ≤ 100)
    · exact law_good a0 a1 _ _ _ l2 W rfl i2 h
    · exact law_bad a0 a1 _ _ _ W h)

set_option maxRecDepth 100000 in
theorem lifted (os : Os) (started : os.Started) (H : Type) (enc : TypeId × Value → H) :
    ReturnsInHanded {} Try.checked os 3 .any (Rows.bucketBoundSpec.pre6 enc Try.prog Try.f3 Rows.bucketBoundRow.domain false) (Rows.bucketBoundSpec.post enc Try.prog Try.f3 false true false false) := by
  refine returnsInHanded_of_change (C := Try.checked) own started (by kernel_rfl) Try.func3
    (ChangeSpec.witness6 (enc := enc) (C := Try.checked) false ⟨#[], #[.int .i64 0, .int .i64 0, .slice none 0 0], []⟩ 8 (by kernel_rfl) (by kernel_rfl) (by kernel_rfl) (by kernel_rfl)) ?_
  intro W base args ds gs before hval hW _ _
  exact contract H enc W base args ds gs before hval hW

theorem proved : Rows.BucketBoundSaid :=
  OpenClaim.holds_of_wide 3 Try.f3 rfl rfl rfl rfl rfl rfl rfl ⟨rfl, rfl, rfl, rfl, rfl⟩ rfl rfl rfl rfl rfl (by kernel_rfl) Try.func3 (by kernel_rfl)
    (of_decide_eq_true (by kernel_rfl)) (by unfold Func.isWrapper; first | (rw [if_pos (by decide +kernel)]; kernel_rfl) | (rw [if_neg (by decide +kernel)]; exact ⟨rfl, rfl⟩))
    (fun os started H enc _ => lifted os started H enc)
end Go.Proofs.Ytegbnldgbfbaaaa.BucketBoundL
