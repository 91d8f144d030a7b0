/- MaxminSame: flows with the same links have the same rate, independent of the order of the others: for every input. No condition. -/
import Derived.Test.YtggnpecmldnmnaaMaxFact
import Derived.Test.YtggnpecmldnmnaaMaxLeft
import Derived.BigQuiet
import Derived.Test.YtggnpecmldnmnaaRiseAll
import Derived.Test.YtggnpecmldnmnaaTurned
import Derived.Test.YtggnpecmldnmnaaOwnF
import Derived.Test.YtggnpecmldnmnaaIn3
import Derived.Deep.RegionHeld3
import Derived.Deep.RegionWith
namespace Go.Proofs.Ytggnpecmldnmnaa.MaxminSameL
open Go.ChangeShapes Go.WideShapes Go.ChangeAt Go.RowKit Go.Proofs.Ytggnpecmldnmnaa.Kit Go.Proofs.Ytggnpecmldnmnaa.App Go.Proofs.Ytggnpecmldnmnaa.Err Go.Proofs.Ytggnpecmldnmnaa.Drr Go.Proofs.Ytggnpecmldnmnaa.Maxmin
set_option linter.unusedVariables false
set_option maxRecDepth 20000
set_option maxHeartbeats 2000000
theorem good_rev {room : List Int} {ws : List (List Int)} (hg : Maxmin.Good room ws) : Maxmin.Good room ws.reverse :=
  ⟨hg.links, by rw [List.length_reverse]; exact hg.flows, hg.caps, fun w hw => hg.full w (List.mem_reverse.1 hw), fun w hw => hg.here w (List.mem_reverse.1 hw), fun w hw => hg.once w (List.mem_reverse.1 hw)⟩
theorem lt_rev {n : Nat} {r r2 : Nat → Int} (h : ∀ i, i < n → r2 i = r (n - 1 - i)) : (lt n fun y => r2 y.toNat).reverse = lt n fun y => r y.toNat := by
  refine List.ext_getElem (by rw [List.length_reverse, lt_len, lt_len]) fun j h1 h2 => ?_
  rw [lt_len] at h2
  rw [List.getElem_reverse]
  simp only [lt, List.getElem_map, List.getElem_range, List.length_map, List.length_range, Int.toNat_natCast]
  rw [h _ (by omega), show n - 1 - (n - 1 - j) = j by omega]
theorem few_of : ∀ (m : Nat) (l : List Int), l.Nodup → (∀ x ∈ l, 0 ≤ x ∧ x < (m : Int)) → l.length ≤ m
  | 0, l, _, h => by
    cases l with
    | nil => exact Nat.le_refl _
    | cons x l => have := h x (by simp); omega
  | m + 1, l, hd, h => by
    have h1 := few_of m (l.erase (m : Int)) (hd.erase _) fun x hx => by
      have := (hd.mem_erase_iff).1 hx
      have h2 := h x this.2
      have h3 := this.1
      omega
    by_cases hm : (m : Int) ∈ l
    · rw [List.length_erase_of_mem hm] at h1
      omega
    · rw [List.erase_of_not_mem hm] at h1
      omega
theorem row_few {room : List Int} {ws : List (List Int)} (hg : Maxmin.Good room ws) {i : Nat} (hi : i < ws.length) : (row ws i).length ≤ 1000 := by
  have hd := hg.once _ (row_in hi)
  have := few_of 6 (row ws i) hd fun x hx => by
    have h1 := hg.here _ (row_in hi) x hx
    have h2 := hg.links
    omega
  omega
theorem ints_two {q1 q2 : Option Addr} {c1 c2 n m : Nat} {a b : List Int} {w : World} {b1 b2 : Nat} (hn : n = a.length) (hm : m = b.length) (h1 : OwnI w b1 (.slice q1 n c1) a) (h2 : OwnI w b2 (.slice q2 m c2) b) (R : Bool) (hR : R = (a == b)) :
    Calls Try.prog 11 #[.slice q1 n c1, .slice q2 m c2] w fun e w' => e = .returned (.bool R) ∧ Below w.heap.size w w' := by
  obtain ⟨_, _, e1, i1⟩ := h1.form
  injection e1 with e1 e2 e3
  subst e1; subst e3
  obtain ⟨_, _, e1, i2⟩ := h2.form
  injection e1 with e1 e2 e3
  subst e1; subst e3
  exact ints_any _ _ _ _ n m a b w hn hm i1 i2 R hR
theorem rows_step {ls : List (List Int)} {j i : Nat} (h : j + i + 1 = ls.length) : ls.reverse.take (j + 1) = ls.reverse.take j ++ [row ls i] := by
  rw [List.take_add_one, List.getElem?_reverse (by omega), show ls.length - 1 - j = i by omega, List.getElem?_eq_getElem (by omega)]
  unfold row
  rw [List.getElem?_eq_getElem (by omega)]
  rfl
abbrev Law (p1 : Option Addr) (n1 cap1 : Nat) (p : Option Addr) (n cap : Nat) (a b : Int) (w : World) : Prop := Calls Try.prog 5 #[.slice p1 n1 cap1, .slice p n cap, .int .i64 a, .int .i64 b] w fun e w' => e = .returned (.bool true) ∧ Below w.heap.size w w'
theorem law_bad (p1 : Option Addr) (n1 cap1 : Nat) (room : List Int) (p : Option Addr) (n cap : Nat) (ws : List (List Int)) (a b : Int) (w : World) (hn1 : n1 = room.length) (hi1 : Ints w p1 cap1 room) (hn : n = ws.length) (hi : RowsI w p cap ws) (c : Int) (hc : code room ws = c) (h0 : c ≠ 0) : Law p1 n1 cap1 p n cap a b w := by
  have RU := Lib.hid (fun W (hW : Below w.heap.size w W) => share_bad p1 cap1 n1 room p cap n ws W hn1 (hi1.below hW) hn (hi.below hW) c hc h0)
  rw [er_ne h0] at RU
  clear hn1 hi1 hn hi hc h0
  have FA := Lib.hid (fact_any w)
  unfold Law
  go_enter Try.func5, Try.ntmps5
  go_wp2_with fail
  refine FA.out.mono ?_; rintro e w1 ⟨rfl, hb1⟩
  clear FA
  go_wp2_with fail
  refine (RU.out w1 hb1).mono ?_; rintro e w2 ⟨rfl, hb2⟩
  have HB2 := Lib.hid (bcall hb1 hb2)
  clear RU hb1 hb2
  go_wp2_with fail
  go_ret
  exact ⟨by first | rfl | simp, HB2.out⟩
theorem law_good (p1 : Option Addr) (n1 cap1 : Nat) (room : List Int) (p : Option Addr) (n cap : Nat) (ws : List (List Int)) (a b : Int) (w : World) (hn1 : n1 = room.length) (hi1 : Ints w p1 cap1 room) (hn : n = ws.length) (hi : RowsI w p cap ws) (hz : code room ws = 0) : Law p1 n1 cap1 p n cap a b w := by
  have hg := code_zero.1 hz
  obtain ⟨N, r, hr⟩ := runs_exist hg
  have RU := Lib.hid (fun W (hW : Below w.heap.size w W) => share_good p1 cap1 n1 room p cap n ws W hn1 (hi1.below hW) hn (hi.below hW) hg N r hr)
  obtain ⟨he1, he2, he3⟩ := ends hg hr
  have hn5 : n ≤ 5 := by rw [hn]; exact hg.flows
  have hl6 : n1 ≤ 6 := by rw [hn1]; exact hg.links
  obtain ⟨r2, hr2, hrv⟩ := runs_rev hr
  have RV := Lib.hid (fun W (hW : Below w.heap.size w W) (p2 : Option Addr) (cap2 : Nat) (hi2 : RowsI W p2 cap2 ws.reverse) => share_good p1 cap1 n1 room p2 cap2 n ws.reverse W hn1 (hi1.below hW) (by rw [List.length_reverse]; exact hn) hi2 (good_rev hg) N r2 hr2)
  have HLT := Lib.hid (show (lt n fun y => r2 y.toNat).reverse = lt n fun y => r y.toNat from lt_rev (by rw [hn]; exact hrv))
  have HTW := Lib.hid (fun i k (hi : i < n) (hk : k < n) (h : ∀ x, x ∈ row ws i ↔ x ∈ row ws k) => (runs_twin (by rw [← hn]; exact hi) (by rw [← hn]; exact hk) h hr rfl rfl : r i = r k))
  have HE1 := Lib.hid he1
  have HG := Lib.hid hg
  have HN := Lib.hid hn
  have HI := Lib.hid hi
  have hlp := hi.len_le
  rw [← hn] at hlp
  clear hn1 hi1 hn hi hz hr he1 he2 he3 hg hr2 hrv
  have FA := Lib.hid (fact_any w)
  unfold Law
  go_enter Try.func5, Try.ntmps5
  go_wp2_with fail
  refine FA.out.mono ?_; rintro e w1 ⟨rfl, hb1⟩
  clear FA
  go_wp2_with fail
  refine (RU.out w1 hb1).mono ?_; rintro e w2 ⟨q, rfl, ho, hb2⟩
  have HB2 := Lib.hid (bcall hb1 hb2)
  have HO := Lib.hid ho
  have u0 : ((n : Int) != (n : Int)) = false := by simp
  clear RU hb1 hb2 ho
  go_wp2_with fail
  go_loopw [12, 13] (fun ov iv wr => ∃ (j : Nat) (t : Int) (v : Value), v = ov ∧ iv = .int .i64 t ∧ t + (j : Int) + 1 = (n : Int) ∧ -1 ≤ t ∧ Hid (OwnF w2 wr v (ws.reverse.take j)) ∧ Hid (Below w2.heap.size w2 wr)) (fun _ i _ => (intOf i + 1).toNat)
  case atStart => exact ⟨0, (n : Int) - 1, _, rfl, by first | rfl | go_num, by omega, by omega, Lib.hid (OwnF.nil _ _), Lib.hid (brefl w2)⟩
  case round =>
    obtain ⟨j, t, v, rfl, rfl, hjt, ht, HF, HB⟩ := hrel
    by_cases h0 : 0 ≤ t
    · have u1 : decide (t ≥ 0) = true := decide_eq_true h0
      obtain ⟨i, rfl⟩ : ∃ i : Nat, t = (i : Int) := ⟨t.toNat, by omega⟩
      have hin : i < n := by omega
      have hil : i < ws.length := by rw [← HN.out]; exact hin
      obtain ⟨b0, off, rfl, hrow⟩ := rows_both HI.out (by omega)
      obtain ⟨q1, c1, hlz, hrw⟩ := hrow i hil
      obtain ⟨hck, _⟩ := hrw wr (bcall HB2.out HB.out)
      have hik := (hrw w2 HB2.out).2
      have HE := Lib.hid (rows_step (ls := ws) (j := j) (i := i) (by rw [← HN.out]; omega))
      have hin' : (i : Int) < (n : Int) := by omega
      have hB0 := HB.out.size
      have hwr := wrap_in (n := (i : Int) - 1) (by omega)
      have HJ := Lib.hid (show j ≤ 5 by omega)
      have HJT := Lib.hid hjt
      have HIK := Lib.hid hik
      obtain ⟨z, hz⟩ : ∃ z, (row ws i).length = z := ⟨_, rfl⟩
      rw [hz] at hck hlz
      have HZ := Lib.hid hz
      clear hrow hrw hil hik hjt hz hin
      go_wp2_with (first
        | (at_builtin
           refine wp_appF rfl (.tmp 41) (.tmp 46) rfl v (ws.reverse.take j) ⟨wr.heap.size, 0, none⟩ q1 z c1 (row ws i) rfl (HF.out.below (balloc (brefl wr) _)) rfl (by go_simp) HZ.out.symm HIK.out (by have := HJ.out; rw [List.length_take]; omega) (Nat.le_trans hB0 (by simp)) ?_
           intro v8 w8 ho8 hg8 hat8
           have HB8 := Lib.hid (below_appF (HB.out.alloc hB0 _) (HF.out.below (balloc (brefl wr) _)) hg8)
           have HO8 := Lib.hid ho8
           clear ho8 hg8 hat8))
      go_roundw
      case rel => exact ⟨j + 1, (i : Int) - 1, v8, rfl, by first | rfl | go_num, by have := HJT.out; omega, by omega, by rw [HE.out]; exact HO8, HB8⟩
      case measure => first | (simp [intOf]; done) | (simp [intOf]; omega)
    · have u1 : decide (t ≥ 0) = false := decide_eq_false (by omega)
      have hj : j = n := by omega
      have hR : ws.reverse.take j = ws.reverse := List.take_of_length_le (by rw [List.length_reverse, ← HN.out]; omega)
      have hf := HF.out
      rw [hR] at hf
      obtain ⟨p2, cap2, hv, hi2⟩ := hf.form HB.out
      rw [List.length_reverse, ← HN.out] at hv
      subst hv
      have HB3 := Lib.hid (bcall HB2.out HB.out)
      have RV2 := Lib.hid (RV.out wr HB3.out p2 cap2 hi2)
      have HO3 := Lib.hid (HO.out.below HB.out)
      clear hj hjt hR hf hi2 HF HB HO
      go_wp2_with fail
      refine RV2.out.mono ?_; rintro e w4 ⟨q2, rfl, ho4, hb4⟩
      have HB4 := Lib.hid (bcall HB3.out hb4)
      have HO4 := Lib.hid (HO3.out.below hb4)
      obtain ⟨_, _, hf4, hi4⟩ := ho4.form
      rw [lt_len] at hf4
      injection hf4 with hf4 e2 e3
      subst hf4; subst e3
      clear e2
      have TU := Lib.hid (turned_any q2 n n (lt n fun y => r2 y.toNat) w4 (lt_len n _).symm hi4 (by omega))
      rw [HLT.out] at TU
      clear RV2 ho4 hb4 hi4 HO3 HB3
      go_wp2_with fail
      refine TU.out.mono ?_; rintro e w5 ⟨v5, rfl, ho5, hb5⟩
      have HB5 := Lib.hid (bcall HB4.out hb5)
      have HO5 := Lib.hid (HO4.out.below hb5)
      obtain ⟨p5, c5, hf5, hi5⟩ := ho5.form
      rw [lt_len] at hf5
      subst hf5
      obtain ⟨_, _, hf6, hi6⟩ := HO5.out.form
      rw [lt_len] at hf6
      injection hf6 with hf6 e2 e3
      subst hf6; subst e3
      clear e2
      have SM := Lib.hid (ints_any p5 q c5 n n n (lt n fun y => r y.toNat) (lt n fun y => r y.toNat) w5 (lt_len n _).symm (lt_len n _).symm hi5 hi6 true (by simp))
      clear TU ho5 hb5 hi5 hi6 HO4 HB4
      go_wp2_with fail
      refine SM.out.mono ?_; rintro e w6 ⟨rfl, hb6⟩
      have HB6 := Lib.hid (bcall HB5.out hb6)
      have HO6 := Lib.hid (HO5.out.below hb6)
      have IN := Lib.hid (fun x W R (hR : R = (decide (0 ≤ x) && decide (x ≤ (n : Int) - 1))) => in_any x 0 ((n : Int) - 1) W R hR)
      have hwr := wrap_in (n := (n : Int) - 1) (by omega)
      clear SM hb6 HO5 HB5
      by_cases ha : 0 ≤ a ∧ a ≤ (n : Int) - 1
      · have IA := Lib.hid (fun W => IN.out a W true (in_true ha))
        by_cases hb : 0 ≤ b ∧ b ≤ (n : Int) - 1
        · have IB := Lib.hid (fun W => IN.out b W true (in_true hb))
          obtain ⟨ia, rfl⟩ : ∃ i : Nat, a = (i : Int) := ⟨a.toNat, by omega⟩
          obtain ⟨ib, rfl⟩ : ∃ i : Nat, b = (i : Int) := ⟨b.toNat, by omega⟩
          have hia : ia < n := by omega
          have hib : ib < n := by omega
          have hia' : (ia : Int) < (n : Int) := by omega
          have hib' : (ib : Int) < (n : Int) := by omega
          have hial : ia < ws.length := by rw [← HN.out]; exact hia
          have hibl : ib < ws.length := by rw [← HN.out]; exact hib
          obtain ⟨b0, off, rfl, hrow⟩ := rows_both HI.out (by omega)
          obtain ⟨qa, ca, hlza, hra⟩ := hrow ia hial
          obtain ⟨qb, cb, hlzb, hrb⟩ := hrow ib hibl
          have hca := (hra w6 HB6.out).1
          have HCA : Hid (∀ W, Below w.heap.size w W → W.cell? ⟨b0, off + ia, none⟩ = some (.slice qa (row ws ia).length ca)) := Lib.hid (fun W hW => (hra W hW).1)
          have HRA := Lib.hid (fun W hW => (hra W hW).2)
          have HRB := Lib.hid hrb
          obtain ⟨za, hza⟩ : ∃ z, (row ws ia).length = z := ⟨_, rfl⟩
          obtain ⟨zb, hzb⟩ : ∃ z, (row ws ib).length = z := ⟨_, rfl⟩
          rw [hza] at hca hlza HCA
          rw [hzb] at hlzb HRB
          have hza1 : 1 ≤ za := by rw [← hza]; exact List.length_pos_iff.2 (HG.out.full _ (row_in hial))
          have hzb1 : 1 ≤ zb := by rw [← hzb]; exact List.length_pos_iff.2 (HG.out.full _ (row_in hibl))
          have h6 : ∀ i, i < ws.length → (row ws i).length ≤ 1000 := fun i hi => row_few HG.out hi
          have RA := Lib.hid (Rising.rising_srt qa ca za (row ws ia) w6.drew hza.symm (HRA.out w6.drew (bdrewN HB6.out 1)) hza1 (by rw [← hza]; exact h6 ia hial))
          have RB := Lib.hid (fun W (hW : Below w.heap.size w W) => Rising.rising_srt qb cb zb (row ws ib) W hzb.symm (HRB.out W hW).2 hzb1 (by rw [← hzb]; exact h6 ib hibl))
          have HSA := Lib.hid (show za = (Rising.srt (row ws ia)).length by rw [Rising.srt_len]; exact hza.symm)
          have HSB := Lib.hid (show zb = (Rising.srt (row ws ib)).length by rw [Rising.srt_len]; exact hzb.symm)
          obtain ⟨gq, cq, hq, _, _, _, _⟩ := own_pos HO6.out (by rw [lt_len]; omega)
          rw [lt_len] at hq
          injection hq with hq e2 e3
          clear e2 e3
          subst hq
          have HLA : Hid (∀ W, Below w6.heap.size w6 W → W.cell? ⟨gq, ia, none⟩ = some (.int .i64 (r ia))) := Lib.hid (fun W hW => by
            have := own_cell (HO6.out.below hW) ia (by rw [lt_len]; exact hia)
            rwa [lt_get _ _ _ hia] at this)
          have HLB : Hid (∀ W, Below w6.heap.size w6 W → W.cell? ⟨gq, ib, none⟩ = some (.int .i64 (r ib))) := Lib.hid (fun W hW => by
            have := own_cell (HO6.out.below hW) ib (by rw [lt_len]; exact hib)
            rwa [lt_get _ _ _ hib] at this)
          have HT := Lib.hid (HTW.out ia ib hia hib)
          clear ha hb hia hib hial hibl hrow hra hrb hza hzb hza1 hzb1 h6 HO6
          go_wp2_with fail
          refine (IA.out _).mono ?_; rintro e w7 ⟨rfl, hw7⟩
          rw [hw7]
          clear hw7 w7
          go_wp2_with fail
          refine (IB.out _).mono ?_; rintro e w7 ⟨rfl, hw7⟩
          rw [hw7]
          clear hw7 w7
          by_cases hs : Rising.srt (row ws ia) = Rising.srt (row ws ib)
          · have hrr : r ia = r ib := HT.out (fun x => by rw [← Rising.srt_mem, hs, Rising.srt_mem])
            rw [hrr] at HLA
            obtain ⟨y, hy⟩ : ∃ y, r ib = y := ⟨_, rfl⟩
            rw [hy] at HLA HLB
            have hR : true = (Rising.srt (row ws ia) == Rising.srt (row ws ib)) := by rw [hs]; simp
            have v9 : (y == y) = true := by simp
            clear hy hrr hs HT
            generalize Rising.srt (row ws ia) = sa at RA HSA hR
            generalize Rising.srt (row ws ib) = sb at RB HSB hR
            have HR := Lib.hid hR
            clear hR
            have K : Hid (∀ W, Below w6.heap.size w6 W → W.cell? ⟨b0, off + ia, none⟩ = some (.slice qa za ca) ∧ W.cell? ⟨b0, off + ib, none⟩ = some (.slice qb zb cb) ∧ W.cell? ⟨gq, ia, none⟩ = some (.int .i64 y) ∧ W.cell? ⟨gq, ib, none⟩ = some (.int .i64 y)) := Lib.hid fun W hW => ⟨HCA.out W (bcall HB6.out hW), (HRB.out W (bcall HB6.out hW)).1, HLA.out W hW, HLB.out W hW⟩
            go_wp2_with fail
            go_region_held3 (fun W' => W'.cell? ⟨b0, off + ia, none⟩ = some (.slice qa za ca) ∧ W'.cell? ⟨b0, off + ib, none⟩ = some (.slice qb zb cb) ∧ W'.cell? ⟨gq, ia, none⟩ = some (.int .i64 y) ∧ W'.cell? ⟨gq, ib, none⟩ = some (.int .i64 y))
              (first
                | exact K.out _ (brefl w6)
                | exact K.out _ (bdrewN (brefl w6) 1)
                | exact K.out _ HB67.out
                | exact K.out _ HB68.out
                | exact K.out _ HB69.out
                | go_keep)
              (first
                | (go_at_call_of 14 (Value.slice qa za ca); refine RA.out.mono ?_; rintro e w7 ⟨⟨q7, c7, rfl, ho7⟩, hb7⟩
                   have HB7 := Lib.hid (bcall HB6.out (bcall (bdrewN (brefl w6) 1) hb7))
                   have HB67 := Lib.hid (bcall (bdrewN (brefl w6) 1) hb7)
                   have HO7 := Lib.hid ho7
                   clear ho7 hb7)
                | (go_at_call_of 14 (Value.slice qb zb cb); refine (RB.out w7 HB7.out).mono ?_; rintro e w8 ⟨⟨q8, c8, rfl, ho8⟩, hb8⟩
                   have HB8 := Lib.hid (bcall HB7.out hb8)
                   have HB68 := Lib.hid (bcall HB67.out hb8)
                   have SE := Lib.hid (ints_two HSA.out HSB.out (HO7.out.below hb8) ho8 true HR.out)
                   clear ho8 hb8)
                | (go_at_call 11; refine SE.out.mono ?_; rintro e w9 ⟨rfl, hb9⟩
                   have HB9 := Lib.hid (bcall HB8.out hb9)
                   have HB69 := Lib.hid (bcall HB68.out hb9)
                   clear hb9))
            all_goals
              go_wp2_with fail
              go_ret
              exact ⟨by first | rfl | simp, HB9.out⟩
          · have hR : false = (Rising.srt (row ws ia) == Rising.srt (row ws ib)) := by symm; rw [beq_eq_false_iff_ne]; exact hs
            clear hs HT
            generalize Rising.srt (row ws ia) = sa at RA HSA hR
            generalize Rising.srt (row ws ib) = sb at RB HSB hR
            have HR := Lib.hid hR
            clear hR
            generalize r ia = y1 at HLA
            generalize r ib = y2 at HLB
            have K : Hid (∀ W, Below w6.heap.size w6 W → W.cell? ⟨b0, off + ia, none⟩ = some (.slice qa za ca) ∧ W.cell? ⟨b0, off + ib, none⟩ = some (.slice qb zb cb) ∧ W.cell? ⟨gq, ia, none⟩ = some (.int .i64 y1) ∧ W.cell? ⟨gq, ib, none⟩ = some (.int .i64 y2)) := Lib.hid fun W hW => ⟨HCA.out W (bcall HB6.out hW), (HRB.out W (bcall HB6.out hW)).1, HLA.out W hW, HLB.out W hW⟩
            go_wp2_with fail
            refine wp_region_held_drew (S := (fun W' => W'.cell? ⟨b0, off + ia, none⟩ = some (.slice qa za ca) ∧ W'.cell? ⟨b0, off + ib, none⟩ = some (.slice qb zb cb) ∧ W'.cell? ⟨gq, ia, none⟩ = some (.int .i64 y1) ∧ W'.cell? ⟨gq, ib, none⟩ = some (.int .i64 y2))) (by kernel_rfl) (K.out _ (bdrewN (brefl w6) 1)) (fun hHeld => ?_)
            refine wpAnyH_take (i := 0) (oi := ⟨some 77, _, _, _, _, _⟩) (v := ?v0) rfl (by kernel_rfl) (by kernel_rfl) (by kernel_rfl) (fun _ _ _ h => h) (Or.inl ⟨by rfl, ?hy0⟩) hHeld ?rest0
            case hy0 => (intro W hSw; (try dsimp only at hSw); go_simp; first | done | with_reducible rfl)
            simp only [Act.put, List.setIfInBounds_toArray, List.set_cons_zero, List.set_cons_succ]
            refine wpAnyH_take (i := 1) (oi := ⟨some 78, _, _, _, _, _⟩) (v := ?v1) rfl (by kernel_rfl) (by kernel_rfl) (by kernel_rfl) (fun _ _ _ h => h) (Or.inl ⟨by rfl, ?hy1⟩) hHeld ?rest1
            case hy1 => (intro W hSw; (try dsimp only at hSw); go_simp; first | done | with_reducible rfl)
            simp only [Act.put, List.setIfInBounds_toArray, List.set_cons_zero, List.set_cons_succ]
            refine wpAnyH_take (i := 2) (oi := ⟨some 79, _, _, _, _, _⟩) (v := ?v2) rfl (by kernel_rfl) (by kernel_rfl) (by kernel_rfl) (fun _ _ _ h => h) (Or.inl ⟨by rfl, ?hy2⟩) hHeld ?rest2
            case hy2 => (intro W hSw; (try dsimp only at hSw); go_simp; first | done | with_reducible rfl)
            simp only [Act.put, List.setIfInBounds_toArray, List.set_cons_zero, List.set_cons_succ]
            refine wpAnyH_take (i := 3) (oi := ⟨some 80, _, _, _, _, _⟩) (v := ?v3) rfl (by kernel_rfl) (by kernel_rfl) (by kernel_rfl) (fun _ _ _ h => h) (Or.inl ⟨by rfl, ?hy3⟩) hHeld ?rest3
            case hy3 => (intro W hSw; (try dsimp only at hSw); go_simp; first | done | with_reducible rfl)
            simp only [Act.put, List.setIfInBounds_toArray, List.set_cons_zero, List.set_cons_succ]
            refine wpAnyH_take (i := 5) (oi := ⟨some 82, _, _, _, _, _⟩) (v := ?v5) rfl (by kernel_rfl) (by kernel_rfl) (by kernel_rfl) (fun _ _ _ h => h) (Or.inl ⟨by rfl, ?hy5⟩) hHeld ?rest5
            case hy5 => (intro W hSw; (try dsimp only at hSw); go_simp; first | done | with_reducible rfl)
            simp only [Act.put, List.setIfInBounds_toArray, List.set_cons_zero, List.set_cons_succ]
            refine wpAnyH_take (i := 6) (oi := ⟨some 83, _, _, _, _, _⟩) (v := ?v6) rfl (by kernel_rfl) (by kernel_rfl) (by kernel_rfl) (fun _ _ _ h => h) (Or.inl ⟨by rfl, ?hy6⟩) hHeld ?rest6
            case hy6 => (intro W hSw; (try dsimp only at hSw); go_simp; first | done | with_reducible rfl)
            simp only [Act.put, List.setIfInBounds_toArray, List.set_cons_zero, List.set_cons_succ]
            refine wpAnyH_take (i := 7) (oi := ⟨some 84, _, _, _, _, _⟩) (v := ?v7) rfl (by kernel_rfl) (by kernel_rfl) (by kernel_rfl) (fun _ _ _ h => h) (Or.inl ⟨by rfl, ?hy7⟩) hHeld ?rest7
            case hy7 => (intro W hSw; (try dsimp only at hSw); go_simp; first | done | with_reducible rfl)
            simp only [Act.put, List.setIfInBounds_toArray, List.set_cons_zero, List.set_cons_succ]
            refine wpAnyH_take (i := 8) (oi := ⟨some 85, _, _, _, _, _⟩) (v := ?v8) rfl (by kernel_rfl) (by kernel_rfl) (by kernel_rfl) (fun _ _ _ h => h) (Or.inl ⟨by rfl, ?hy8⟩) hHeld ?rest8
            case hy8 => (intro W hSw; (try dsimp only at hSw); go_simp; first | done | with_reducible rfl)
            simp only [Act.put, List.setIfInBounds_toArray, List.set_cons_zero, List.set_cons_succ]
            refine wpAnyH_ready (rs := [4]) (by kernel_rfl) (by simp) ?_
            refine AllReadyH.cons (o := ⟨some 81, _, _, _, _, _⟩) rfl (fun KK hK => ?_) AllReadyH.nil
            go_simp
            refine RA.out.mono ?_; rintro e w7 ⟨⟨q7, c7, rfl, ho7⟩, hb7⟩
            have HB7 := Lib.hid (bcall HB6.out (bcall (bdrewN (brefl w6) 1) hb7))
            have HB67 := Lib.hid (bcall (bdrewN (brefl w6) 1) hb7)
            have HO7 := Lib.hid ho7
            clear ho7 hb7
            go_wp2_with fail
            refine hK.out _ _ (K.out _ HB67.out) (fun hHeld2 => ?_)
            clear hK KK
            try simp only [Act.put, List.setIfInBounds_toArray, List.set_cons_zero, List.set_cons_succ]
            refine wpAnyH_ready (rs := [9]) (by kernel_rfl) (by simp) ?_
            refine AllReadyH.cons (o := ⟨some 86, _, _, _, _, _⟩) rfl (fun KK hK => ?_) AllReadyH.nil
            go_simp
            refine (RB.out w7 HB7.out).mono ?_; rintro e w8 ⟨⟨q8, c8, rfl, ho8⟩, hb8⟩
            have HB8 := Lib.hid (bcall HB7.out hb8)
            have HB68 := Lib.hid (bcall HB67.out hb8)
            have SE := Lib.hid (ints_two HSA.out HSB.out (HO7.out.below hb8) ho8 false HR.out)
            clear ho8 hb8
            go_wp2_with fail
            refine hK.out _ _ (K.out _ HB68.out) (fun hHeld3 => ?_)
            clear hK KK
            try simp only [Act.put, List.setIfInBounds_toArray, List.set_cons_zero, List.set_cons_succ]
            refine wpAnyH_ready (rs := [10]) (by kernel_rfl) (by simp) ?_
            refine AllReadyH.cons (o := ⟨some 87, _, _, _, _, _⟩) rfl (fun KK hK => ?_) AllReadyH.nil
            go_simp
            refine SE.out.mono ?_; rintro e w9 ⟨rfl, hb9⟩
            have HB9 := Lib.hid (bcall HB8.out hb9)
            have HB69 := Lib.hid (bcall HB68.out hb9)
            clear hb9
            go_wp2_with fail
            refine hK.out _ _ (K.out _ HB69.out) (fun hHeld4 => ?_)
            clear hK KK
            try simp only [Act.put, List.setIfInBounds_toArray, List.set_cons_zero, List.set_cons_succ]
            refine wpAnyH_take (i := 11) (oi := ⟨some 88, _, _, _, _, _⟩) (v := ?v11) rfl (by kernel_rfl) (by kernel_rfl) (by kernel_rfl) (fun _ _ _ h => h) (Or.inl ⟨by rfl, ?hy11⟩) hHeld4 ?rest11
            case hy11 => (intro W hSw; (try dsimp only at hSw); go_simp; first | done | with_reducible rfl)
            simp only [Act.put, List.setIfInBounds_toArray, List.set_cons_zero, List.set_cons_succ]
            refine wpAnyH_take (i := 12) (oi := ⟨some 89, _, _, _, _, _⟩) (v := ?v12) rfl (by kernel_rfl) (by kernel_rfl) (by kernel_rfl) (fun _ _ _ h => h) (Or.inl ⟨by rfl, ?hy12⟩) hHeld4 ?rest12
            case hy12 => (intro W hSw; (try dsimp only at hSw); go_simp; first | done | with_reducible rfl)
            simp only [Act.put, List.setIfInBounds_toArray, List.set_cons_zero, List.set_cons_succ]
            refine wpAnyH_take (i := 13) (oi := ⟨some 90, _, _, _, _, _⟩) (v := undef) rfl (by kernel_rfl) (by kernel_rfl) (by kernel_rfl) (fun _ _ _ h => h) (Or.inr ⟨by rfl, rfl⟩) hHeld4 ?_
            simp only [Act.put, List.setIfInBounds_toArray, List.set_cons_zero, List.set_cons_succ]
            refine wpAnyH_take (i := 14) (oi := ⟨some 91, _, _, _, _, _⟩) (v := undef) rfl (by kernel_rfl) (by kernel_rfl) (by kernel_rfl) (fun _ _ _ h => h) (Or.inr ⟨by rfl, rfl⟩) hHeld4 ?_
            simp only [Act.put, List.setIfInBounds_toArray, List.set_cons_zero, List.set_cons_succ]
            refine wpAnyH_take (i := 15) (oi := ⟨some 92, _, _, _, _, _⟩) (v := undef) rfl (by kernel_rfl) (by kernel_rfl) (by kernel_rfl) (fun _ _ _ h => h) (Or.inr ⟨by rfl, rfl⟩) hHeld4 ?_
            simp only [Act.put, List.setIfInBounds_toArray, List.set_cons_zero, List.set_cons_succ]
            refine wpAnyH_take (i := 16) (oi := ⟨some 93, _, _, _, _, _⟩) (v := undef) rfl (by kernel_rfl) (by kernel_rfl) (by kernel_rfl) (fun _ _ _ h => h) (Or.inr ⟨by rfl, rfl⟩) hHeld4 ?_
            simp only [Act.put, List.setIfInBounds_toArray, List.set_cons_zero, List.set_cons_succ]
            refine wpAnyH_take (i := 17) (oi := ⟨some 94, _, _, _, _, _⟩) (v := undef) rfl (by kernel_rfl) (by kernel_rfl) (by kernel_rfl) (fun _ _ _ h => h) (Or.inr ⟨by rfl, rfl⟩) hHeld4 ?_
            simp only [Act.put, List.setIfInBounds_toArray, List.set_cons_zero, List.set_cons_succ]
            refine wpAnyH_take (i := 18) (oi := ⟨some 95, _, _, _, _, _⟩) (v := undef) rfl (by kernel_rfl) (by kernel_rfl) (by kernel_rfl) (fun _ _ _ h => h) (Or.inr ⟨by rfl, rfl⟩) hHeld4 ?_
            simp only [Act.put, List.setIfInBounds_toArray, List.set_cons_zero, List.set_cons_succ]
            refine wpAnyH_take (i := 19) (oi := ⟨some 96, _, _, _, _, _⟩) (v := undef) rfl (by kernel_rfl) (by kernel_rfl) (by kernel_rfl) (fun _ _ _ h => h) (Or.inr ⟨by rfl, rfl⟩) hHeld4 ?_
            simp only [Act.put, List.setIfInBounds_toArray, List.set_cons_zero, List.set_cons_succ]
            refine wpAnyH_take (i := 20) (oi := ⟨some 97, _, _, _, _, _⟩) (v := undef) rfl (by kernel_rfl) (by kernel_rfl) (by kernel_rfl) (fun _ _ _ h => h) (Or.inr ⟨by rfl, rfl⟩) hHeld4 ?_
            simp only [Act.put, List.setIfInBounds_toArray, List.set_cons_zero, List.set_cons_succ]
            refine wpAnyH_take (i := 21) (oi := ⟨some 98, _, _, _, _, _⟩) (v := undef) rfl (by kernel_rfl) (by kernel_rfl) (by kernel_rfl) (fun _ _ _ h => h) (Or.inr ⟨by rfl, rfl⟩) hHeld4 ?_
            simp only [Act.put, List.setIfInBounds_toArray, List.set_cons_zero, List.set_cons_succ]
            refine wpAnyH_take (i := 22) (oi := ⟨some 99, _, _, _, _, _⟩) (v := ?v22) rfl (by kernel_rfl) (by kernel_rfl) (by kernel_rfl) (fun _ _ _ h => h) (Or.inl ⟨by rfl, ?hy22⟩) hHeld4 ?rest22
            case hy22 => (intro W hSw; (try dsimp only at hSw); go_simp; first | done | with_reducible rfl)
            simp only [Act.put, List.setIfInBounds_toArray, List.set_cons_zero, List.set_cons_succ]
            refine wpAnyH_take (i := 23) (oi := ⟨some 8, _, _, _, _, _⟩) (v := ?v23) rfl (by kernel_rfl) (by kernel_rfl) (by kernel_rfl) (fun _ _ _ h => h) (Or.inl ⟨by rfl, ?hy23⟩) hHeld4 ?rest23
            case hy23 => (intro W hSw; (try dsimp only at hSw); go_simp; first | done | with_reducible rfl)
            simp only [Act.put, List.setIfInBounds_toArray, List.set_cons_zero, List.set_cons_succ]
            refine wpAnyH_done (by kernel_rfl) ?_ _
            go_wp2_with fail
            go_ret
            exact ⟨by first | rfl | simp, HB9.out⟩
        · have IB := Lib.hid (fun W => IN.out b W false (in_false hb))
          clear ha hb
          go_wp2_with fail
          refine (IA.out _).mono ?_; rintro e w7 ⟨rfl, rfl⟩
          go_wp2_with fail
          refine (IB.out _).mono ?_; rintro e w7 ⟨rfl, rfl⟩
          go_wp2_with fail
          go_ret
          exact ⟨by first | rfl | simp, HB6.out⟩
      · have IA := Lib.hid (fun W => IN.out a W false (in_false ha))
        clear ha
        go_wp2_with fail
        refine (IA.out _).mono ?_; rintro e w7 ⟨rfl, rfl⟩
        go_wp2_with fail
        go_ret
        exact ⟨by first | rfl | simp, HB6.out⟩

theorem reads : Try.f5.params.toList.all (fun t => Try.prog.readableRec t && decide (t < Try.prog.types.size)) = true := by kernel_rfl

theorem contract (H : Type) (enc : TypeId × Value → H) (W : World) (base : Nat) (args : Array Value) (ds gs : List (DataW H)) (before : List MemPlace)
    (hval : ∀ (j : Nat) t v, Try.f5.params[j]? = some t → args[j]? = some v → Value.okWide Try.prog W .any base t v)
    (hW : DataW.Whole enc Try.prog Try.f5.params.toList Rows.maxminSameSpec.vars false W args.toList ds gs before) :
    Calls Try.prog 5 args W fun e W' => ∃ v, e = .returned v ∧ Rows.maxminSameSpec.post enc Try.prog Try.f5 false true false false W args v W' := by
  have hW' := hW
  obtain ⟨p, q, hA0, hV, rfl, hfz, hnd⟩ := hW
  have hA : DataW.TrodAll enc Try.prog W 0 (fun _ => true) true Try.f5.params.toList args.toList ds p := hA0
  have hlt := hA.lt
  rw [Try.params5] at hA hval
  obtain ⟨v0, vs0, d0, ds0, p0, q0, hargs, rfl, rfl, h0, r0⟩ := trodAll_cons hA
  obtain ⟨v1, vs1, d1, ds1, p1, q1, hvs1, rfl, rfl, h1, r1⟩ := trodAll_cons r0
  obtain ⟨v2, vs2, d2, ds2, p2, q2, hvs2, rfl, rfl, h2, r2⟩ := trodAll_cons r1
  obtain ⟨v3, vs3, d3, ds3, p3, q3, hvs3, rfl, rfl, h3, r3⟩ := trodAll_cons r2
  obtain ⟨hvsn, rfl, rfl⟩ := trodAll_nil r3
  simp only [hvsn, hvs3, hvs2, hvs1] at hargs
  obtain rfl : args = #[v0, v1, v2, v3] := by cases args; simp_all
  obtain ⟨rfl, rfl⟩ := trodVars_none hV
  clear hA0
  obtain ⟨p0a, cap0, l0, rfl, i0⟩ := open_intsl Try.underlying22 Try.underlying3 (by kernel_rfl) (hval 0 22 v0 rfl rfl) h0 (fun x hx => hlt x (by simp [hx]))
  obtain ⟨p1a, cap1, l1, rfl, i1, e1⟩ := open_rows Try.underlying23 Try.underlying22 Try.underlying3 (by kernel_rfl) (by kernel_rfl) (hval 1 23 v1 rfl rfl) h1 (fun x hx => hlt x (by simp [hx]))
  obtain ⟨a2, rfl, rfl, rfl, w2⟩ := open_int Try.underlying3 (hval 2 3 v2 rfl rfl) h2
  have b2 := bounds_int w2
  obtain ⟨a3, rfl, rfl, rfl, w3⟩ := open_int Try.underlying3 (hval 3 3 v3 rfl rfl) h3
  have b3 := bounds_int w3
  exact law_post 4 laid reads rfl Try.underlying4 rfl hW' ⟨rfl, rfl, rfl⟩ (by
    by_cases h : code l0 l1 = 0
    · exact law_good _ _ _ l0 _ _ _ l1 a2 a3 W rfl i0 rfl i1 h
    · exact law_bad _ _ _ l0 _ _ _ l1 a2 a3 W rfl i0 rfl i1 _ rfl h)

set_option maxRecDepth 100000 in
theorem lifted (os : Os) (started : os.Started) (H : Type) (enc : TypeId × Value → H) :
    ReturnsInHanded {} Try.checked os 5 .any (Rows.maxminSameSpec.pre6 enc Try.prog Try.f5 Rows.maxminSameRow.domain false) (Rows.maxminSameSpec.post enc Try.prog Try.f5 false true false false) := by
  refine returnsInHanded_of_change (C := Try.checked) own started (by kernel_rfl) Try.func5
    (ChangeSpec.witness6 (enc := enc) (C := Try.checked) false ⟨#[], #[.slice none 0 0, .slice none 0 0, .int .i64 0, .int .i64 0], []⟩ 8 (by kernel_rfl) (by kernel_rfl) (by kernel_rfl) (by kernel_rfl)) ?_
  intro W base args ds gs before hval hW _ _
  exact contract H enc W base args ds gs before hval hW

theorem proved : Rows.MaxminSameSaid :=
  OpenClaim.holds_of_wide 5 Try.f5 rfl rfl rfl rfl rfl rfl rfl ⟨rfl, rfl, rfl, rfl, rfl⟩ rfl rfl rfl rfl rfl (by kernel_rfl) Try.func5 (by kernel_rfl)
    (of_decide_eq_true (by kernel_rfl)) (by unfold Func.isWrapper; first | (rw [if_pos (by decide +kernel)]; kernel_rfl) | (rw [if_neg (by decide +kernel)]; exact ⟨rfl, rfl⟩))
    (fun os started H enc _ => lifted os started H enc)
end Go.Proofs.Ytggnpecmldnmnaa.MaxminSameL
