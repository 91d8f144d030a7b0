/- LearnForgets: who was heard longest ago is forgotten first; of the last eight that were heard each one is known: for every input, the row's handle laid as the card says. -/
import Derived.Test.YtbgbmchpikdgoaaDoorCards
import Derived.Test.YtbgbmchpikdgoaaDoorTie
import Derived.Deep.DeepHandedRow
import Derived.Lib.LaidTab
import Derived.LaidHandle
import Derived.SevenTiedAt
import Derived.Test.YtbgbmchpikdgoaaDoorLearnFact
import Derived.Test.YtbgbmchpikdgoaaDoorLearnLast
import Derived.Test.YtbgbmchpikdgoaaDoorErrSame
import Derived.Test.YtbgbmchpikdgoaaDoorIn3
import Derived.BigQuiet
import Derived.Deep.RegionHeld3
import Derived.Deep.RegionWith
import Derived.OrdersHeld
namespace Go.Proofs.YtbgbmchpikdgoaaDoor.LearnForgetsL
open Go.ChangeShapes Go.WideShapes Go.ChangeAt Go.RowKit Go.Proofs.YtbgbmchpikdgoaaDoor.Kit Go.Proofs.YtbgbmchpikdgoaaDoor.App Go.Proofs.YtbgbmchpikdgoaaDoor.Cells Go.Proofs.YtbgbmchpikdgoaaDoor.Err Go.Proofs.YtbgbmchpikdgoaaDoor.As Go.Proofs.YtbgbmchpikdgoaaDoor.Learn
set_option linter.unusedVariables false
set_option maxRecDepth 20000
set_option maxHeartbeats 2000000
abbrev Law (p : Option Addr) (m cap : Nat) (p1 : Option Addr) (n c1 : Nat) (q : Int) (w : World) : Prop := Calls Tryd.prog 3 #[.slice p m cap, .slice p1 n c1, .int .i64 q] w fun e w' => e = .returned (.bool true) ∧ Below w.heap.size w w'
theorem law_bad (p : Option Addr) (m cap : Nat) (ls : List (List Int)) (p1 : Option Addr) (n c1 : Nat) (q : Int) (w : World) (hg : Handle w) (hm : m = ls.length) (hi : RowsI w p cap ls) (h : ¬ isP q) : Law p m cap p1 n c1 q w := by
  have DB := Lib.hid (fun s W => down_bad s q W h)
  have I1 := Lib.hid (fun W => Drr.in_any q 0 3 W false (in_false h))
  have ER := Lib.hid (fun W (hW : Below w.heap.size w W) => err_same 1 W (hg.below hW))
  rw [er_1] at DB ER
  clear h hg
  have FA := Lib.hid (fact_any w)
  have HE := Lib.hid (fun W (hW : Below w.heap.size w W) => heard_any p cap m ls W hm (hi.below hW))
  clear hi hm
  unfold Law
  go_enter Tryd.func3, Tryd.ntmps3
  go_wp2_with fail
  refine FA.out.mono ?_; rintro e w1 ⟨rfl, hb1⟩
  have HB1 := Lib.hid hb1
  clear FA hb1
  go_wp2_with fail
  refine (HE.out w1 HB1.out).mono ?_; rintro e w2 ⟨s, l, rfl, hs2, hb2⟩
  have HS2 := Lib.hid (hs2.mono (Y := fun k => k < w.heap.size) (fun k hk => Nat.lt_of_lt_of_le hk HB1.out.size))
  have HB2 := Lib.hid (bcall HB1.out hb2)
  clear hs2 hb2 HE HB1
  go_wp2_with fail
  refine (I1.out _).mono ?_; rintro e w3 ⟨rfl, rfl⟩
  go_wp2_with fail
  refine (DB.out s w3).mono ?_; rintro e w4 ⟨rfl, hb4⟩
  have HB4 := Lib.hid (bcall HB2.out hb4)
  clear hb4
  go_wp2_with fail
  refine (ER.out w4 HB4.out).mono ?_; rintro e w5 ⟨rfl, hb5⟩
  have HB5 := Lib.hid (bcall HB4.out hb5)
  clear hb5
  go_wp2_with fail
  go_ret
  exact ⟨rfl, HB5.out⟩
set_option maxHeartbeats 8000000 in
theorem law_good (p : Option Addr) (m cap : Nat) (ls : List (List Int)) (p1 : Option Addr) (n c1 : Nat) (al : List Int) (q : Int) (w : World) (hm : m = ls.length) (hi : RowsI w p cap ls) (hn : n = al.length) (hj : Ints w p1 c1 al) (hq : isP q) : Law p m cap p1 n c1 q w := by
  have I1 := Lib.hid (fun W => Drr.in_any q 0 3 W true (in_true hq))
  have HQ := Lib.hid hq
  have hlen := hj.len_le
  rw [← hn] at hlen
  have HJ := Lib.hid (Drr.ints_both hj)
  have HWF := Lib.hid hj.2.2.1
  have HN := Lib.hid hn
  clear hj hn hq
  have FA := Lib.hid (fact_any w)
  have HE := Lib.hid (fun W (hW : Below w.heap.size w W) => heard_any p cap m ls W hm (hi.below hW))
  clear hi hm
  unfold Law
  go_enter Tryd.func3, Tryd.ntmps3
  go_wp2_with fail
  refine FA.out.mono ?_; rintro e w1 ⟨rfl, hb1⟩
  have HB1 := Lib.hid hb1
  clear FA hb1
  go_wp2_with fail
  refine (HE.out w1 HB1.out).mono ?_; rintro e w2 ⟨s, l, rfl, hs2, hb2⟩
  have HS2 := Lib.hid (hs2.mono (Y := fun k => k < w.heap.size) (fun k hk => Nat.lt_of_lt_of_le hk HB1.out.size))
  have HB2 := Lib.hid (bcall HB1.out hb2)
  clear hs2 hb2 HE HB1
  go_wp2_with fail
  refine (I1.out _).mono ?_; rintro e w3 ⟨rfl, rfl⟩
  have HF0 := Lib.hid (FS.start HS2.out HB2.out)
  have HU0 := Lib.hid (suf_nil l q)
  clear HS2 HB2
  go_wp2_with fail
  go_loopw [11, 12] (fun lv iv wr => ∃ (i N c : Nat) (L : List Int) (p2 : Option Addr) (t : List E), i ≤ n ∧ i ≤ 30 ∧ N ≤ 8 ∧ lv = .slice p2 N c ∧ iv = .int .i64 (i : Int) ∧ Hid (N = L.length) ∧ Hid (FS w wr s p2 c L t) ∧ Hid (Suf t L q)) (fun _ i _ => 30 - (intOf i).toNat)
  case atStart => exact ⟨0, 0, 0, [], none, l, Nat.zero_le _, Nat.zero_le _, Nat.zero_le _, rfl, rfl, Lib.hid rfl, HF0, HU0⟩
  case round =>
    obtain ⟨i, N, c, L, p2, t, hin, hi30, hN8, rfl, rfl, HL, HF, HU⟩ := hrel
    clear HF0 HU0
    by_cases h1 : i < n
    · have u1 : decide ((i : Int) < (n : Int)) = true := decide_eq_true (by omega)
      by_cases h2 : i < 30
      · have u2 : decide ((i : Int) < 30) = true := decide_eq_true (by omega)
        obtain ⟨b, off, rfl, hc⟩ := HJ.out (by rw [← HN.out]; omega)
        have HC := Lib.hid (fun W hW => hc W hW i (by rw [← HN.out]; exact h1))
        have hwf := HWF.out i
        generalize al[i]?.getD 0 = a at HC hwf
        have WA := Lib.hid hwf
        have ca := HC.out wr HF.out.bel
        clear hc hwf
        by_cases ha : isA a
        · have C := Lib.hid (frame_good _ s t a a q wr.drew (show Sw (XP w p2) wr.drew s t from HF.out.sw.below ⟨rfl, rfl, rfl, Nat.le_refl _, fun _ _ => rfl⟩) ha ha HQ.out)
          have HU2 := Lib.hid (suf_next HF.out.sw.ok HU.out a)
          rw [er_0] at C
          clear ha
          go_wp2_with fail
          refine wp_region_held_drew (S := (fun W' => W'.cell? ⟨b, off + i, none⟩ = some (.int .i64 a))) (by kernel_rfl) (ca) (fun hHeld => ?_)
          refine wpAnyH_take (i := 0) (oi := ⟨some 47, _, _, _, _, _⟩) (v := ?vr10) rfl (by kernel_rfl) (by kernel_rfl) (by kernel_rfl) (fun _ _ _ h => h) (Or.inl ⟨by rfl, ?hyr10⟩) hHeld ?restr10
          case hyr10 => (intro W hSw; (try dsimp only at hSw); (try obtain ⟨hSw1, hSw2⟩ := hSw); (try obtain ⟨hSw2, hSw3⟩ := hSw2); go_simp; first | done | with_reducible rfl)
          simp only [Act.put, List.setIfInBounds_toArray, List.set_cons_zero, List.set_cons_succ]
          refine wpAnyH_take (i := 1) (oi := ⟨some 48, _, _, _, _, _⟩) (v := ?vr11) rfl (by kernel_rfl) (by kernel_rfl) (by kernel_rfl) (fun _ _ _ h => h) (Or.inl ⟨by rfl, ?hyr11⟩) hHeld ?restr11
          case hyr11 => (intro W hSw; (try dsimp only at hSw); (try obtain ⟨hSw1, hSw2⟩ := hSw); (try obtain ⟨hSw2, hSw3⟩ := hSw2); go_simp; first | done | with_reducible rfl)
          simp only [Act.put, List.setIfInBounds_toArray, List.set_cons_zero, List.set_cons_succ]
          refine wpAnyH_take (i := 2) (oi := ⟨some 49, _, _, _, _, _⟩) (v := ?vr12) rfl (by kernel_rfl) (by kernel_rfl) (by kernel_rfl) (fun _ _ _ h => h) (Or.inl ⟨by rfl, ?hyr12⟩) hHeld ?restr12
          case hyr12 => (intro W hSw; (try dsimp only at hSw); (try obtain ⟨hSw1, hSw2⟩ := hSw); (try obtain ⟨hSw2, hSw3⟩ := hSw2); go_simp; first | done | with_reducible rfl)
          simp only [Act.put, List.setIfInBounds_toArray, List.set_cons_zero, List.set_cons_succ]
          refine wpAnyH_take (i := 3) (oi := ⟨some 50, _, _, _, _, _⟩) (v := ?vr13) rfl (by kernel_rfl) (by kernel_rfl) (by kernel_rfl) (fun _ _ _ h => h) (Or.inl ⟨by rfl, ?hyr13⟩) hHeld ?restr13
          case hyr13 => (intro W hSw; (try dsimp only at hSw); (try obtain ⟨hSw1, hSw2⟩ := hSw); (try obtain ⟨hSw2, hSw3⟩ := hSw2); go_simp; first | done | with_reducible rfl)
          simp only [Act.put, List.setIfInBounds_toArray, List.set_cons_zero, List.set_cons_succ]
          refine wpAnyH_take (i := 4) (oi := ⟨some 51, _, _, _, _, _⟩) (v := ?vr14) rfl (by kernel_rfl) (by kernel_rfl) (by kernel_rfl) (fun _ _ _ h => h) (Or.inl ⟨by rfl, ?hyr14⟩) hHeld ?restr14
          case hyr14 => (intro W hSw; (try dsimp only at hSw); (try obtain ⟨hSw1, hSw2⟩ := hSw); (try obtain ⟨hSw2, hSw3⟩ := hSw2); go_simp; first | done | with_reducible rfl)
          simp only [Act.put, List.setIfInBounds_toArray, List.set_cons_zero, List.set_cons_succ]
          refine wpAnyH_take (i := 5) (oi := ⟨some 52, _, _, _, _, _⟩) (v := ?vr15) rfl (by kernel_rfl) (by kernel_rfl) (by kernel_rfl) (fun _ _ _ h => h) (Or.inl ⟨by rfl, ?hyr15⟩) hHeld ?restr15
          case hyr15 => (intro W hSw; (try dsimp only at hSw); (try obtain ⟨hSw1, hSw2⟩ := hSw); (try obtain ⟨hSw2, hSw3⟩ := hSw2); go_simp; first | done | with_reducible rfl)
          simp only [Act.put, List.setIfInBounds_toArray, List.set_cons_zero, List.set_cons_succ]
          refine wpAnyH_take (i := 6) (oi := ⟨some 53, _, _, _, _, _⟩) (v := ?vr16) rfl (by kernel_rfl) (by kernel_rfl) (by kernel_rfl) (fun _ _ _ h => h) (Or.inl ⟨by rfl, ?hyr16⟩) hHeld ?restr16
          case hyr16 => (intro W hSw; (try dsimp only at hSw); (try obtain ⟨hSw1, hSw2⟩ := hSw); (try obtain ⟨hSw2, hSw3⟩ := hSw2); go_simp; first | done | with_reducible rfl)
          simp only [Act.put, List.setIfInBounds_toArray, List.set_cons_zero, List.set_cons_succ]
          refine wpAnyH_take (i := 7) (oi := ⟨some 54, _, _, _, _, _⟩) (v := ?vr17) rfl (by kernel_rfl) (by kernel_rfl) (by kernel_rfl) (fun _ _ _ h => h) (Or.inl ⟨by rfl, ?hyr17⟩) hHeld ?restr17
          case hyr17 => (intro W hSw; (try dsimp only at hSw); (try obtain ⟨hSw1, hSw2⟩ := hSw); (try obtain ⟨hSw2, hSw3⟩ := hSw2); go_simp; first | done | with_reducible rfl)
          simp only [Act.put, List.setIfInBounds_toArray, List.set_cons_zero, List.set_cons_succ]
          refine wpAnyH_take (i := 8) (oi := ⟨some 55, _, _, _, _, _⟩) (v := ?vr18) rfl (by kernel_rfl) (by kernel_rfl) (by kernel_rfl) (fun _ _ _ h => h) (Or.inl ⟨by rfl, ?hyr18⟩) hHeld ?restr18
          case hyr18 => (intro W hSw; (try dsimp only at hSw); (try obtain ⟨hSw1, hSw2⟩ := hSw); (try obtain ⟨hSw2, hSw3⟩ := hSw2); go_simp; first | done | with_reducible rfl)
          simp only [Act.put, List.setIfInBounds_toArray, List.set_cons_zero, List.set_cons_succ]
          refine wpAnyH_take (i := 9) (oi := ⟨some 56, _, _, _, _, _⟩) (v := ?vr19) rfl (by kernel_rfl) (by kernel_rfl) (by kernel_rfl) (fun _ _ _ h => h) (Or.inl ⟨by rfl, ?hyr19⟩) hHeld ?restr19
          case hyr19 => (intro W hSw; (try dsimp only at hSw); (try obtain ⟨hSw1, hSw2⟩ := hSw); (try obtain ⟨hSw2, hSw3⟩ := hSw2); go_simp; first | done | with_reducible rfl)
          simp only [Act.put, List.setIfInBounds_toArray, List.set_cons_zero, List.set_cons_succ]
          refine wpAnyH_ready (rs := [10]) (by kernel_rfl) (by simp) ?_
          refine AllReadyH.cons (o := ⟨some 57, _, _, _, _, _⟩) rfl (fun KK hK => ?_) AllReadyH.nil
          go_simp
          refine C.out.mono ?_; rintro e w6 ⟨v, rfl, ho6, hs6, hk6⟩
          generalize hear t a q = t2 at HU2 hs6
          have HF6 := Lib.hid (HF.out.turn (hs6.mono (Y := XP w p2) (fun k h => .inl h)) (show Keep (XP w p2) wr w6 from ⟨hk6.os, hk6.tape, hk6.output, hk6.size, hk6.block⟩))
          have ca6 := HC.out w6 HF6.out.bel
          clear ho6 hs6 hk6
          go_wp2_with fail
          refine hK.out _ _ (ca6) (fun hHeld2 => ?_)
          clear hK KK
          try simp only [Act.put, List.setIfInBounds_toArray, List.set_cons_zero, List.set_cons_succ]
          refine wpAnyH_take (i := 11) (oi := ⟨some 46, _, _, _, _, _⟩) (v := ?vr111) rfl (by kernel_rfl) (by kernel_rfl) (by kernel_rfl) (fun _ _ _ h => h) (Or.inl ⟨by rfl, ?hyr111⟩) hHeld2 ?restr111
          case hyr111 => (intro W hSw; (try dsimp only at hSw); (try obtain ⟨hSw1, hSw2⟩ := hSw); (try obtain ⟨hSw2, hSw3⟩ := hSw2); go_simp; first | done | with_reducible rfl)
          simp only [Act.put, List.setIfInBounds_toArray, List.set_cons_zero, List.set_cons_succ]
          refine wpAnyH_take (i := 12) (oi := ⟨some 58, _, _, _, _, _⟩) (v := ?vr112) rfl (by kernel_rfl) (by kernel_rfl) (by kernel_rfl) (fun _ _ _ h => h) (Or.inl ⟨by rfl, ?hyr112⟩) hHeld2 ?restr112
          case hyr112 => (intro W hSw; (try dsimp only at hSw); (try obtain ⟨hSw1, hSw2⟩ := hSw); (try obtain ⟨hSw2, hSw3⟩ := hSw2); go_simp; first | done | with_reducible rfl)
          simp only [Act.put, List.setIfInBounds_toArray, List.set_cons_zero, List.set_cons_succ]
          refine wpAnyH_take (i := 13) (oi := ⟨some 59, _, _, _, _, _⟩) (v := ?vr113) rfl (by kernel_rfl) (by kernel_rfl) (by kernel_rfl) (fun _ _ _ h => h) (Or.inl ⟨by rfl, ?hyr113⟩) hHeld2 ?restr113
          case hyr113 => (intro W hSw; (try dsimp only at hSw); (try obtain ⟨hSw1, hSw2⟩ := hSw); (try obtain ⟨hSw2, hSw3⟩ := hSw2); go_simp; first | done | with_reducible rfl)
          simp only [Act.put, List.setIfInBounds_toArray, List.set_cons_zero, List.set_cons_succ]
          refine wpAnyH_take (i := 14) (oi := ⟨some 13, _, _, _, _, _⟩) (v := ?vr114) rfl (by kernel_rfl) (by kernel_rfl) (by kernel_rfl) (fun _ _ _ h => h) (Or.inl ⟨by rfl, ?hyr114⟩) hHeld2 ?restr114
          case hyr114 => (intro W hSw; (try dsimp only at hSw); (try obtain ⟨hSw1, hSw2⟩ := hSw); (try obtain ⟨hSw2, hSw3⟩ := hSw2); go_simp; first | done | with_reducible rfl)
          simp only [Act.put, List.setIfInBounds_toArray, List.set_cons_zero, List.set_cons_succ]
          refine wpAnyH_take (i := 15) (oi := ⟨some 14, _, _, _, _, _⟩) (v := ?vr115) rfl (by kernel_rfl) (by kernel_rfl) (by kernel_rfl) (fun _ _ _ h => h) (Or.inl ⟨by rfl, ?hyr115⟩) hHeld2 ?restr115
          case hyr115 => (intro W hSw; (try dsimp only at hSw); (try obtain ⟨hSw1, hSw2⟩ := hSw); (try obtain ⟨hSw2, hSw3⟩ := hSw2); go_simp; first | done | with_reducible rfl)
          simp only [Act.put, List.setIfInBounds_toArray, List.set_cons_zero, List.set_cons_succ]
          refine wpAnyH_done (by kernel_rfl) ?_ _
          clear C HF HU ca ca6 hHeld hHeld2
          go_wp2_with fail
          go_loopw [15, 16] (fun nv kv wr => ∃ k : Nat, k ≤ N ∧ kv = .int .i64 (k : Int) ∧ Hid (OwnI wr w6.heap.size nv (non (L.take k) a)) ∧ Hid (Below w6.heap.size w6 wr)) (fun _ k _ => N - (intOf k).toNat)
          case atStart => exact ⟨0, Nat.zero_le _, rfl, Lib.hid (OwnI.nil _ _), Lib.hid (brefl _)⟩
          case round =>
            obtain ⟨k, hk, rfl, HO, HB⟩ := hrel
            have ca := HC.out wr (bcall HF6.out.bel HB.out)
            by_cases hkN : k < N
            · have u3 : decide ((k : Int) < (N : Int)) = true := decide_eq_true (by omega)
              have hkL : k < L.length := by rw [← HL.out]; exact hkN
              have hiw := HF6.out.ints.below HB.out
              have hyw := hiw.2.2.1 k
              obtain ⟨b2, o2, e2, hb2, hcs⟩ := hiw.2.2.2 (by omega)
              have cl := hcs k hkL
              have HT := Lib.hid (show L.take (k + 1) = L.take k ++ [L[k]?.getD 0] by rw [List.take_add_one, List.getElem?_eq_getElem hkL]; rfl)
              have hnl : (non (L.take k) a).length ≤ 8 := by have := non_len (L.take k) a; rw [List.length_take] at this; omega
              have HNL := Lib.hid hnl
              generalize L[k]?.getD 0 = y at cl hyw HT
              have WY := Lib.hid hyw
              have HE2 := Lib.hid e2
              subst e2
              clear hcs hiw hyw hb2 hkL hnl
              by_cases hya : y = a
              · have u4 : (y != a) = false := by rw [bne_eq_false_iff_eq]; exact hya
                have HE := Lib.hid (non_no (L.take k) hya)
                clear hya
                go_wp2_with fail
                go_quiet (fail)
                go_wp2_with fail
                go_roundw
                case rel => exact ⟨k + 1, by omega, by first | rfl | go_num, by rw [HT.out, HE.out]; exact HO, Lib.hid (below_drewN HB.out _)⟩
                case measure => simp [intOf]; omega
              · have u4 : (y != a) = true := by rw [bne_iff_ne]; exact hya
                have HE := Lib.hid (non_yes (L.take k) hya)
                clear hya
                go_wp2_with fail
                go_quiet (fail)
                have HO2 := Lib.hid (show OwnI (wr.drewN nq) w6.heap.size _ (non (L.take k) a) from HO.out)
                have HB2 := Lib.hid (bdrewN HB.out nq)
                have cl2 : (wr.drewN nq).cell? ⟨b2, o2 + k, none⟩ = some (.int .i64 y) := cl
                clear HO HB cl ca
                generalize wr.drewN nq = w7 at HO2 HB2 cl2 ⊢
                have hsz : w6.heap.size ≤ w7.heap.size := HB2.out.size
                go_wp2_with (at_builtin
                             refine wp_app rfl (.tmp 83) (.tmp 88) rfl w6.heap.size _ (non (L.take k) a) (some ⟨w7.heap.size, 0, none⟩) 1 1 [y] rfl (HO2.out.alloc _) rfl rfl (Ints.one w7 y WY.out) (by rw [List.length_singleton]; have := HNL.out; omega) (Nat.le_trans hsz (by simp)) ?_
                             intro v1 wa hown1 hg1 hat1
                             have HO8 := Lib.hid hown1
                             have HB8 := Lib.hid (show Below w6.heap.size w6 wa from below_one HB2.out hsz _ HO2.out hg1)
                             clear hown1 hg1 hat1)
                go_roundw
                case rel => exact ⟨k + 1, by omega, by first | rfl | go_num, by rw [HT.out, HE.out]; exact HO8, HB8⟩
                case measure => simp [intOf]; omega
            · obtain rfl : k = N := by omega
              have u3 : decide ((k : Int) < (k : Int)) = false := decide_eq_false (by omega)
              rw [List.take_of_length_le (show L.length ≤ k by rw [HL.out]; exact Nat.le_refl _)] at HO
              have hnl : (non L a).length ≤ 8 := by have := non_len L a; have := HL.out; omega
              have HNL := Lib.hid hnl
              have hsz : w6.heap.size ≤ wr.heap.size := HB.out.size
              obtain ⟨w7, hw7⟩ : ∃ z, z = wr := ⟨wr, rfl⟩
              rw [← hw7] at HO HB hsz ca ⊢
              clear hw7 wr
              obtain ⟨F, hF⟩ : ∃ F, (non L a ++ [a]).length = F := ⟨_, rfl⟩
              have hF9 : F ≤ 9 := by rw [← hF, List.length_append]; simp; exact hnl
              have HFL := Lib.hid hF
              have HNX := Lib.hid (show nextL L a = cutL (non L a ++ [a]) from rfl)
              clear hnl hF
              by_cases hF8 : 8 < F
              · have hF : F = 9 := by omega
                subst hF
                go_wp2_with
                  (at_builtin
                   refine wp_app rfl (.tmp 90) (.tmp 95) rfl w6.heap.size _ (non L a) (some ⟨w7.heap.size, 0, none⟩) 1 1 [a] rfl (HO.out.alloc _) rfl rfl (Ints.one w7 a WA.out) (by rw [List.length_singleton]; have := HNL.out; omega) (Nat.le_trans hsz (by simp)) ?_
                   intro v1 wa hown1 hg1 hat1
                   have HB8 := Lib.hid (show Below w6.heap.size w6 wa from below_one HB.out hsz _ HO.out hg1)
                   obtain ⟨p8, c8, e8, hi8, ha8⟩ := own_read hown1
                   rw [HFL.out] at e8
                   subst e8
                   have hcap := hi8.1
                   rw [HFL.out] at hcap
                   obtain ⟨ba, oa, ea, _, _⟩ := hi8.2.2.2 (by rw [HFL.out]; omega)
                   have z1 : (c8 = 1) = False := by rw [eq_iff_iff]; exact ⟨fun h => by omega, False.elim⟩
                   have hcm := hi8.2.1
                   unfold maxLen at hcm
                   have HF9 := Lib.hid (HF6.out.renew (p' := some ⟨ba, oa + 1, none⟩) (c' := c8 - 1) HB8.out (ints_tail (ea ▸ hi8) 1 (c8 - 1) (by rw [HFL.out]; omega) (by rw [HFL.out]; omega) (by unfold maxLen; omega)) (fun x e => by injection e with e; subst e; have h := ha8 ⟨ba, oa, none⟩ ea; exact ⟨h.1, h.2.1⟩))
                   subst ea
                   clear hown1 hg1 hat1 hi8 ha8)
                obtain ⟨Z, hZ⟩ : ∃ Z, (non L a ++ [a]).drop 1 = Z := ⟨_, rfl⟩
                have HM := Lib.hid (show 8 = Z.length by rw [← hZ, List.length_drop, HFL.out])
                have HUZ := Lib.hid (show Suf t2 Z q by rw [← hZ]; have h := HU2.out; rw [HNX.out, cutL, if_pos (by rw [HFL.out]; omega)] at h; exact h)
                rw [hZ] at HF9
                clear hZ
                have hM8 : 8 ≤ 8 := Nat.le_refl _
                clear ca HO HB HC HF6 WA HFL HNX HB8 HNL HU2 HL hsz
                go_loopw [17] (fun kv wr => ∃ k : Nat, k ≤ 8 ∧ kv = .int .i64 (k : Int) ∧ Hid (FS w wr s (some ⟨ba, oa + 1, none⟩) (c8 - 1) Z t2)) (fun k _ => 8 - (intOf k).toNat)
                case atStart => exact ⟨0, Nat.zero_le _, rfl, HF9⟩
                case round =>
                  obtain ⟨k2, hk2, rfl, HFF⟩ := hrel
                  clear HF9
                  by_cases hkM : k2 < 8
                  · have u5 : decide ((k2 : Int) < (8 : Int)) = true := decide_eq_true (by omega)
                    have hkZ : k2 < Z.length := by rw [← HM.out]; exact hkM
                    obtain ⟨b2, o2, e2, hb2, hcs⟩ := HFF.out.ints.2.2.2 (by omega)
                    have cl := hcs k2 hkZ
                    have HFD := Lib.hid (suf_find HFF.out.sw.ok HUZ.out (x := Z[k2]?.getD 0) (by rw [List.getElem?_eq_getElem hkZ]; exact List.getElem_mem hkZ))
                    have HP := Lib.hid (port_any _ s t2 (Z[k2]?.getD 0) wr HFF.out.sw)
                    rw [HFD.out] at HP
                    generalize Z[k2]?.getD 0 = y at cl HP HFD
                    injection e2 with e2
                    injection e2 with e2 e3
                    subst e2; subst e3
                    have u6 : (q != q) = false := by simp
                    clear hcs hb2 hkZ HFD
                    go_wp2_with fail
                    refine HP.out.mono ?_; rintro e w9 ⟨rfl, hb9⟩
                    have HF10 := Lib.hid (HFF.out.below hb9)
                    clear HP hb9 cl HFF
                    go_wp2_with fail
                    go_roundw
                    case rel => exact ⟨k2 + 1, by omega, by first | rfl | go_num, HF10⟩
                    case measure => simp [intOf]; omega
                  · have hk28 : k2 = 8 := by omega
                    subst hk28
                    have u5 : decide (((8 : Nat) : Int) < 8) = false := decide_eq_false (by omega)
                    go_wp2_with fail
                    go_roundw
                    case rel => exact ⟨i + 1, 8, (c8 - 1), Z, (some ⟨ba, oa + 1, none⟩), t2, by omega, by omega, hM8, rfl, by first | rfl | go_num, HM, HFF, HUZ⟩
                    case measure => simp [intOf]; omega
              · have t1 : decide ((F : Int) > 8) = false := decide_eq_false (by omega)
                go_wp2_with
                  (at_builtin
                   refine wp_app rfl (.tmp 90) (.tmp 95) rfl w6.heap.size _ (non L a) (some ⟨w7.heap.size, 0, none⟩) 1 1 [a] rfl (HO.out.alloc _) rfl rfl (Ints.one w7 a WA.out) (by rw [List.length_singleton]; have := HNL.out; omega) (Nat.le_trans hsz (by simp)) ?_
                   intro v1 wa hown1 hg1 hat1
                   have HB8 := Lib.hid (show Below w6.heap.size w6 wa from below_one HB.out hsz _ HO.out hg1)
                   obtain ⟨p8, c8, e8, hi8, ha8⟩ := own_read hown1
                   rw [HFL.out] at e8
                   subst e8
                   have HF9 := Lib.hid (HF6.out.renew HB8.out hi8 (fun x e => ⟨(ha8 x e).1, (ha8 x e).2.1⟩))
                   clear hown1 hg1 hat1 hi8 ha8)
                obtain ⟨Z, hZ⟩ : ∃ Z, non L a ++ [a] = Z := ⟨_, rfl⟩
                have HM := Lib.hid (show F = Z.length by rw [← hZ]; exact HFL.out.symm)
                have HUZ := Lib.hid (show Suf t2 Z q by rw [← hZ]; have h := HU2.out; rw [HNX.out, cutL, if_neg (by rw [HFL.out]; omega)] at h; exact h)
                rw [hZ] at HF9
                clear hZ
                have hM8 : F ≤ 8 := by omega
                clear ca HO HB HC HF6 WA HFL HNX HB8 HNL HU2 HL hsz
                go_loopw [17] (fun kv wr => ∃ k : Nat, k ≤ F ∧ kv = .int .i64 (k : Int) ∧ Hid (FS w wr s p8 c8 Z t2)) (fun k _ => F - (intOf k).toNat)
                case atStart => exact ⟨0, Nat.zero_le _, rfl, HF9⟩
                case round =>
                  obtain ⟨k2, hk2, rfl, HFF⟩ := hrel
                  clear HF9
                  by_cases hkM : k2 < F
                  · have u5 : decide ((k2 : Int) < (F : Int)) = true := decide_eq_true (by omega)
                    have hkZ : k2 < Z.length := by rw [← HM.out]; exact hkM
                    obtain ⟨b2, o2, e2, hb2, hcs⟩ := HFF.out.ints.2.2.2 (by omega)
                    have cl := hcs k2 hkZ
                    have HFD := Lib.hid (suf_find HFF.out.sw.ok HUZ.out (x := Z[k2]?.getD 0) (by rw [List.getElem?_eq_getElem hkZ]; exact List.getElem_mem hkZ))
                    have HP := Lib.hid (port_any _ s t2 (Z[k2]?.getD 0) wr HFF.out.sw)
                    rw [HFD.out] at HP
                    generalize Z[k2]?.getD 0 = y at cl HP HFD
                    subst e2
                    have u6 : (q != q) = false := by simp
                    clear hcs hb2 hkZ HFD
                    go_wp2_with fail
                    refine HP.out.mono ?_; rintro e w9 ⟨rfl, hb9⟩
                    have HF10 := Lib.hid (HFF.out.below hb9)
                    clear HP hb9 cl HFF
                    go_wp2_with fail
                    go_roundw
                    case rel => exact ⟨k2 + 1, by omega, by first | rfl | go_num, HF10⟩
                    case measure => simp [intOf]; omega
                  · obtain rfl : k2 = F := by omega
                    have u5 : decide ((k2 : Int) < (k2 : Int)) = false := decide_eq_false (by omega)
                    go_wp2_with fail
                    go_roundw
                    case rel => exact ⟨i + 1, k2, c8, Z, p8, t2, by omega, by omega, hM8, rfl, by first | rfl | go_num, HM, HFF, HUZ⟩
                    case measure => simp [intOf]; omega
        · have C := Lib.hid (frame_bad s a a q wr.drew (fun h => ha h.1))
          have I2 := Lib.hid (fun W => Drr.in_any a 0 65535 W false (in_false ha))
          have HBF := Lib.hid HF.out.bel
          rw [er_1] at C
          clear ha HF HU
          go_wp2_with fail
          refine wp_region_held_drew (S := (fun W' => W'.cell? ⟨b, off + i, none⟩ = some (.int .i64 a))) (by kernel_rfl) (ca) (fun hHeld => ?_)
          refine wpAnyH_take (i := 0) (oi := ⟨some 47, _, _, _, _, _⟩) (v := ?vr20) rfl (by kernel_rfl) (by kernel_rfl) (by kernel_rfl) (fun _ _ _ h => h) (Or.inl ⟨by rfl, ?hyr20⟩) hHeld ?restr20
          case hyr20 => (intro W hSw; (try dsimp only at hSw); (try obtain ⟨hSw1, hSw2⟩ := hSw); (try obtain ⟨hSw2, hSw3⟩ := hSw2); go_simp; first | done | with_reducible rfl)
          simp only [Act.put, List.setIfInBounds_toArray, List.set_cons_zero, List.set_cons_succ]
          refine wpAnyH_take (i := 1) (oi := ⟨some 48, _, _, _, _, _⟩) (v := ?vr21) rfl (by kernel_rfl) (by kernel_rfl) (by kernel_rfl) (fun _ _ _ h => h) (Or.inl ⟨by rfl, ?hyr21⟩) hHeld ?restr21
          case hyr21 => (intro W hSw; (try dsimp only at hSw); (try obtain ⟨hSw1, hSw2⟩ := hSw); (try obtain ⟨hSw2, hSw3⟩ := hSw2); go_simp; first | done | with_reducible rfl)
          simp only [Act.put, List.setIfInBounds_toArray, List.set_cons_zero, List.set_cons_succ]
          refine wpAnyH_take (i := 2) (oi := ⟨some 49, _, _, _, _, _⟩) (v := ?vr22) rfl (by kernel_rfl) (by kernel_rfl) (by kernel_rfl) (fun _ _ _ h => h) (Or.inl ⟨by rfl, ?hyr22⟩) hHeld ?restr22
          case hyr22 => (intro W hSw; (try dsimp only at hSw); (try obtain ⟨hSw1, hSw2⟩ := hSw); (try obtain ⟨hSw2, hSw3⟩ := hSw2); go_simp; first | done | with_reducible rfl)
          simp only [Act.put, List.setIfInBounds_toArray, List.set_cons_zero, List.set_cons_succ]
          refine wpAnyH_take (i := 3) (oi := ⟨some 50, _, _, _, _, _⟩) (v := ?vr23) rfl (by kernel_rfl) (by kernel_rfl) (by kernel_rfl) (fun _ _ _ h => h) (Or.inl ⟨by rfl, ?hyr23⟩) hHeld ?restr23
          case hyr23 => (intro W hSw; (try dsimp only at hSw); (try obtain ⟨hSw1, hSw2⟩ := hSw); (try obtain ⟨hSw2, hSw3⟩ := hSw2); go_simp; first | done | with_reducible rfl)
          simp only [Act.put, List.setIfInBounds_toArray, List.set_cons_zero, List.set_cons_succ]
          refine wpAnyH_take (i := 4) (oi := ⟨some 51, _, _, _, _, _⟩) (v := ?vr24) rfl (by kernel_rfl) (by kernel_rfl) (by kernel_rfl) (fun _ _ _ h => h) (Or.inl ⟨by rfl, ?hyr24⟩) hHeld ?restr24
          case hyr24 => (intro W hSw; (try dsimp only at hSw); (try obtain ⟨hSw1, hSw2⟩ := hSw); (try obtain ⟨hSw2, hSw3⟩ := hSw2); go_simp; first | done | with_reducible rfl)
          simp only [Act.put, List.setIfInBounds_toArray, List.set_cons_zero, List.set_cons_succ]
          refine wpAnyH_take (i := 5) (oi := ⟨some 52, _, _, _, _, _⟩) (v := ?vr25) rfl (by kernel_rfl) (by kernel_rfl) (by kernel_rfl) (fun _ _ _ h => h) (Or.inl ⟨by rfl, ?hyr25⟩) hHeld ?restr25
          case hyr25 => (intro W hSw; (try dsimp only at hSw); (try obtain ⟨hSw1, hSw2⟩ := hSw); (try obtain ⟨hSw2, hSw3⟩ := hSw2); go_simp; first | done | with_reducible rfl)
          simp only [Act.put, List.setIfInBounds_toArray, List.set_cons_zero, List.set_cons_succ]
          refine wpAnyH_take (i := 6) (oi := ⟨some 53, _, _, _, _, _⟩) (v := ?vr26) rfl (by kernel_rfl) (by kernel_rfl) (by kernel_rfl) (fun _ _ _ h => h) (Or.inl ⟨by rfl, ?hyr26⟩) hHeld ?restr26
          case hyr26 => (intro W hSw; (try dsimp only at hSw); (try obtain ⟨hSw1, hSw2⟩ := hSw); (try obtain ⟨hSw2, hSw3⟩ := hSw2); go_simp; first | done | with_reducible rfl)
          simp only [Act.put, List.setIfInBounds_toArray, List.set_cons_zero, List.set_cons_succ]
          refine wpAnyH_take (i := 7) (oi := ⟨some 54, _, _, _, _, _⟩) (v := ?vr27) rfl (by kernel_rfl) (by kernel_rfl) (by kernel_rfl) (fun _ _ _ h => h) (Or.inl ⟨by rfl, ?hyr27⟩) hHeld ?restr27
          case hyr27 => (intro W hSw; (try dsimp only at hSw); (try obtain ⟨hSw1, hSw2⟩ := hSw); (try obtain ⟨hSw2, hSw3⟩ := hSw2); go_simp; first | done | with_reducible rfl)
          simp only [Act.put, List.setIfInBounds_toArray, List.set_cons_zero, List.set_cons_succ]
          refine wpAnyH_take (i := 8) (oi := ⟨some 55, _, _, _, _, _⟩) (v := ?vr28) rfl (by kernel_rfl) (by kernel_rfl) (by kernel_rfl) (fun _ _ _ h => h) (Or.inl ⟨by rfl, ?hyr28⟩) hHeld ?restr28
          case hyr28 => (intro W hSw; (try dsimp only at hSw); (try obtain ⟨hSw1, hSw2⟩ := hSw); (try obtain ⟨hSw2, hSw3⟩ := hSw2); go_simp; first | done | with_reducible rfl)
          simp only [Act.put, List.setIfInBounds_toArray, List.set_cons_zero, List.set_cons_succ]
          refine wpAnyH_take (i := 9) (oi := ⟨some 56, _, _, _, _, _⟩) (v := ?vr29) rfl (by kernel_rfl) (by kernel_rfl) (by kernel_rfl) (fun _ _ _ h => h) (Or.inl ⟨by rfl, ?hyr29⟩) hHeld ?restr29
          case hyr29 => (intro W hSw; (try dsimp only at hSw); (try obtain ⟨hSw1, hSw2⟩ := hSw); (try obtain ⟨hSw2, hSw3⟩ := hSw2); go_simp; first | done | with_reducible rfl)
          simp only [Act.put, List.setIfInBounds_toArray, List.set_cons_zero, List.set_cons_succ]
          refine wpAnyH_ready (rs := [10]) (by kernel_rfl) (by simp) ?_
          refine AllReadyH.cons (o := ⟨some 57, _, _, _, _, _⟩) rfl (fun KK hK => ?_) AllReadyH.nil
          go_simp
          refine C.out.mono ?_; rintro e w6 ⟨rfl, rfl⟩
          go_wp2_with fail
          refine hK.out _ _ (ca) (fun hHeld2 => ?_)
          clear hK KK
          try simp only [Act.put, List.setIfInBounds_toArray, List.set_cons_zero, List.set_cons_succ]
          refine wpAnyH_take (i := 11) (oi := ⟨some 46, _, _, _, _, _⟩) (v := ?vr211) rfl (by kernel_rfl) (by kernel_rfl) (by kernel_rfl) (fun _ _ _ h => h) (Or.inl ⟨by rfl, ?hyr211⟩) hHeld2 ?restr211
          case hyr211 => (intro W hSw; (try dsimp only at hSw); (try obtain ⟨hSw1, hSw2⟩ := hSw); (try obtain ⟨hSw2, hSw3⟩ := hSw2); go_simp; first | done | with_reducible rfl)
          simp only [Act.put, List.setIfInBounds_toArray, List.set_cons_zero, List.set_cons_succ]
          refine wpAnyH_take (i := 12) (oi := ⟨some 58, _, _, _, _, _⟩) (v := ?vr212) rfl (by kernel_rfl) (by kernel_rfl) (by kernel_rfl) (fun _ _ _ h => h) (Or.inl ⟨by rfl, ?hyr212⟩) hHeld2 ?restr212
          case hyr212 => (intro W hSw; (try dsimp only at hSw); (try obtain ⟨hSw1, hSw2⟩ := hSw); (try obtain ⟨hSw2, hSw3⟩ := hSw2); go_simp; first | done | with_reducible rfl)
          simp only [Act.put, List.setIfInBounds_toArray, List.set_cons_zero, List.set_cons_succ]
          refine wpAnyH_take (i := 13) (oi := ⟨some 59, _, _, _, _, _⟩) (v := ?vr213) rfl (by kernel_rfl) (by kernel_rfl) (by kernel_rfl) (fun _ _ _ h => h) (Or.inl ⟨by rfl, ?hyr213⟩) hHeld2 ?restr213
          case hyr213 => (intro W hSw; (try dsimp only at hSw); (try obtain ⟨hSw1, hSw2⟩ := hSw); (try obtain ⟨hSw2, hSw3⟩ := hSw2); go_simp; first | done | with_reducible rfl)
          simp only [Act.put, List.setIfInBounds_toArray, List.set_cons_zero, List.set_cons_succ]
          refine wpAnyH_take (i := 14) (oi := ⟨some 13, _, _, _, _, _⟩) (v := ?vr214) rfl (by kernel_rfl) (by kernel_rfl) (by kernel_rfl) (fun _ _ _ h => h) (Or.inl ⟨by rfl, ?hyr214⟩) hHeld2 ?restr214
          case hyr214 => (intro W hSw; (try dsimp only at hSw); (try obtain ⟨hSw1, hSw2⟩ := hSw); (try obtain ⟨hSw2, hSw3⟩ := hSw2); go_simp; first | done | with_reducible rfl)
          simp only [Act.put, List.setIfInBounds_toArray, List.set_cons_zero, List.set_cons_succ]
          refine wpAnyH_take (i := 15) (oi := ⟨some 14, _, _, _, _, _⟩) (v := ?vr215) rfl (by kernel_rfl) (by kernel_rfl) (by kernel_rfl) (fun _ _ _ h => h) (Or.inl ⟨by rfl, ?hyr215⟩) hHeld2 ?restr215
          case hyr215 => (intro W hSw; (try dsimp only at hSw); (try obtain ⟨hSw1, hSw2⟩ := hSw); (try obtain ⟨hSw2, hSw3⟩ := hSw2); go_simp; first | done | with_reducible rfl)
          simp only [Act.put, List.setIfInBounds_toArray, List.set_cons_zero, List.set_cons_succ]
          refine wpAnyH_done (by kernel_rfl) ?_ _
          have ca2 : wr.drew.cell? ⟨b, off + i, none⟩ = some (.int .i64 a) := ca
          have HB6 := Lib.hid (show Below w.heap.size w wr.drew from below_drewN HBF.out 1)
          clear ca C HBF hHeld hHeld2
          go_wp2_with fail
          refine (I2.out _).mono ?_; rintro e w7 ⟨rfl, rfl⟩
          go_wp2_with fail
          go_ret
          exact ⟨rfl, HB6.out⟩
      · have u2 : decide ((i : Int) < 30) = false := decide_eq_false (by omega)
        have HD := Lib.hid (down_good _ s t q wr HF.out.sw HQ.out)
        rw [er_0] at HD
        have hD := suf_down HU.out
        have h8 := HF.out.sw.ok.len
        have HFG := Lib.hid (fun x (hx : x ∈ L) => find_down_gone HF.out.sw.ok (suf_find HF.out.sw.ok HU.out hx))
        generalize down t q = t3 at HD hD HFG
        obtain ⟨D, hDD⟩ : ∃ D : Int, (t.length : Int) - (t3.length : Int) = D := ⟨_, rfl⟩
        rw [hDD] at HD
        rw [← HL.out] at hD
        have u3 : decide (D ≥ (N : Int)) = true := decide_eq_true (by omega)
        have u4 : decide (D ≤ 8) = true := decide_eq_true (by omega)
        clear hDD hD h8
        go_wp2_with fail
        refine HD.out.mono ?_; rintro e w6 ⟨rfl, hs6, hk6⟩
        have HF6 := Lib.hid (HF.out.turn hs6 hk6)
        clear HD hs6 hk6 HF HU
        by_cases hN0 : N = 0
        · subst hN0
          have hD0 : 0 ≤ D := by simpa using u3
          go_wp2_with fail
          all_goals first
            | (exfalso; omega)
            | (go_ret; exact ⟨rfl, HF6.out.bel⟩)
        · have u5 : ((N : Int) == 0) = false := by rw [beq_eq_false_iff_ne]; omega
          have hL0 : 0 < L.length := by rw [← HL.out]; omega
          obtain ⟨b2, o2, e2, hb2, hcs⟩ := HF6.out.ints.2.2.2 hL0
          have cl : w6.cell? ⟨b2, o2, none⟩ = some (.int .i64 (L[0]?.getD 0)) := hcs 0 hL0
          have HP := Lib.hid (port_any _ s t3 (L[0]?.getD 0) w6 HF6.out.sw)
          rw [HFG.out (L[0]?.getD 0) (by rw [List.getElem?_eq_getElem hL0]; exact List.getElem_mem hL0)] at HP
          generalize L[0]?.getD 0 = y at cl HP
          have hNp : (0 : Int) < (N : Int) := by omega
          have hNq : 0 < N := by omega
          subst e2
          clear hcs hb2 hL0 hN0
          go_wp2_with fail
          refine HP.out.mono ?_; rintro e w7 ⟨rfl, hb7⟩
          have HB7 := Lib.hid (bcall HF6.out.bel hb7)
          clear hb7 HP
          go_wp2_with fail
          go_ret
          exact ⟨rfl, HB7.out⟩
    · have u1 : decide ((i : Int) < (n : Int)) = false := decide_eq_false (by omega)
      have HD := Lib.hid (down_good _ s t q wr HF.out.sw HQ.out)
      rw [er_0] at HD
      have hD := suf_down HU.out
      have h8 := HF.out.sw.ok.len
      have HFG := Lib.hid (fun x (hx : x ∈ L) => find_down_gone HF.out.sw.ok (suf_find HF.out.sw.ok HU.out hx))
      generalize down t q = t3 at HD hD HFG
      obtain ⟨D, hDD⟩ : ∃ D : Int, (t.length : Int) - (t3.length : Int) = D := ⟨_, rfl⟩
      rw [hDD] at HD
      rw [← HL.out] at hD
      have u3 : decide (D ≥ (N : Int)) = true := decide_eq_true (by omega)
      have u4 : decide (D ≤ 8) = true := decide_eq_true (by omega)
      clear hDD hD h8
      go_wp2_with fail
      refine HD.out.mono ?_; rintro e w6 ⟨rfl, hs6, hk6⟩
      have HF6 := Lib.hid (HF.out.turn hs6 hk6)
      clear HD hs6 hk6 HF HU
      by_cases hN0 : N = 0
      · subst hN0
        have hD0 : 0 ≤ D := by simpa using u3
        go_wp2_with fail
        all_goals first
          | (exfalso; omega)
          | (go_ret; exact ⟨rfl, HF6.out.bel⟩)
      · have u5 : ((N : Int) == 0) = false := by rw [beq_eq_false_iff_ne]; omega
        have hL0 : 0 < L.length := by rw [← HL.out]; omega
        obtain ⟨b2, o2, e2, hb2, hcs⟩ := HF6.out.ints.2.2.2 hL0
        have cl : w6.cell? ⟨b2, o2, none⟩ = some (.int .i64 (L[0]?.getD 0)) := hcs 0 hL0
        have HP := Lib.hid (port_any _ s t3 (L[0]?.getD 0) w6 HF6.out.sw)
        rw [HFG.out (L[0]?.getD 0) (by rw [List.getElem?_eq_getElem hL0]; exact List.getElem_mem hL0)] at HP
        generalize L[0]?.getD 0 = y at cl HP
        have hNp : (0 : Int) < (N : Int) := by omega
        have hNq : 0 < N := by omega
        subst e2
        clear hcs hb2 hL0 hN0
        go_wp2_with fail
        refine HP.out.mono ?_; rintro e w7 ⟨rfl, hb7⟩
        have HB7 := Lib.hid (bcall HF6.out.bel hb7)
        clear hb7 HP
        go_wp2_with fail
        go_ret
        exact ⟨rfl, HB7.out⟩

theorem reads : Tryd.f3.params.toList.all (fun t => Tryd.prog.readableRec t && decide (t < Tryd.prog.types.size)) = true := by kernel_rfl
theorem et : Tryd.prog.globalNamed "errors.errorType" = some 0 := by kernel_rfl
theorem rt : (Tryd.prog.cutTypes.find? (·.1 == "internal/reflectlite.rtype")).map (·.2) = some 74 := by kernel_rfl
theorem oneRow : ((List.range Tryd.prog.types.size).filter fun t => Tryd.prog.rowNamed t [101, 114, 114, 111, 114]) = [29] := by kernel_rfl

theorem handle_of_laid {W : World} (h : laidMetH Tryd.prog Rows.learnForgetsRow.laid W) : Handle W := by
  have h' : laidMet Tryd.prog [] W ∧ handlesMet Tryd.prog Rows.learnForgetsRow.laid W := h
  obtain ⟨name, u, ty, e1, e2, e3, e4, e5⟩ := h'.2 _ (List.mem_singleton.2 rfl)
  have en : name = [101, 114, 114, 111, 114] := (Option.some.inj e1).symm
  subst en
  obtain rfl := Option.some.inj (rt.symm.trans e2)
  have hm : ty ∈ (List.range Tryd.prog.types.size).filter fun t => Tryd.prog.rowNamed t [101, 114, 114, 111, 114] := List.mem_filter.2 ⟨List.mem_range.2 e3, e4⟩
  rw [oneRow] at hm
  obtain rfl := List.mem_singleton.1 hm
  have hh : typeHandle Tryd.prog 29 = .pointer (some ⟨1, 29, none⟩) := by kernel_rfl
  rw [hh] at e5
  have e6 := World.var?_cell et e5 0
  unfold Handle
  simpa using e6

noncomputable def laidWorld (os : Os) : World :=
  { World.holding Tryd.prog os ⟨#[], #[], []⟩ with heap := (World.holding Tryd.prog os ⟨#[], #[], []⟩).heap.modify 0 fun
      | .cells _ t frozen => .cells #[.iface 74 (.agg #[.pointer (some ⟨1, 29, none⟩)])] t frozen
      | o => o }
theorem laid_met (os : Os) : laidMetH Tryd.prog Rows.learnForgetsRow.laid ((laidWorld os).forCall (fun _ _ => 0) ⟨#[], #[.slice none 0 0, .slice none 0 0, .int .i64 0], []⟩).memory :=
  laidMetH_of_parts (laidMet_nil _ _) (by kernel_rfl)
theorem reads_wit (os : Os) {H : Type} (enc : TypeId × Value → H) : ∃ places, DataW.whole enc Tryd.prog ((laidWorld os).forCall (fun _ _ => 0) ⟨#[], #[.slice none 0 0, .slice none 0 0, .int .i64 0], []⟩).memory Tryd.f3.params.toList Rows.learnForgetsSpec.vars false (#[.slice none 0 0, .slice none 0 0, .int .i64 0] : Array Value).toList 8 = some ([.nil, .nil, .lit (.int .i64 0)], [], places) :=
  ⟨[], by kernel_rfl⟩

theorem contract (H : Type) (enc : TypeId × Value → H) (W : World) (base : Nat) (args : Array Value) (ds gs : List (DataW H)) (before : List MemPlace)
    (hval : ∀ (j : Nat) t v, Tryd.f3.params[j]? = some t → args[j]? = some v → Value.okWide Tryd.prog W .any base t v)
    (hW : DataW.Whole enc Tryd.prog Tryd.f3.params.toList Rows.learnForgetsSpec.vars false W args.toList ds gs before) (hL : laidMetH Tryd.prog Rows.learnForgetsRow.laid W) :
    Calls Tryd.prog 3 args W fun e W' => ∃ v, e = .returned v ∧ Rows.learnForgetsSpec.post enc Tryd.prog Tryd.f3 false true false false W args v W' := by
  have hW' := hW
  have hg := handle_of_laid hL
  obtain ⟨p, q, hA0, hV, rfl, hfz, hnd⟩ := hW
  have hA : DataW.TrodAll enc Tryd.prog W 0 (fun _ => true) true Tryd.f3.params.toList args.toList ds p := hA0
  have hlt := hA.lt
  rw [Tryd.params3] at hA hval
  obtain ⟨v0, vs0, d0, ds0, p0, q0, hargs, rfl, rfl, h0, r0⟩ := trodAll_cons hA
  obtain ⟨v1, vs1, d1, ds1, p1, q1, hvs1, rfl, rfl, h1, r1⟩ := trodAll_cons r0
  obtain ⟨v2, vs2, d2, ds2, p2, q2, hvs2, rfl, rfl, h2, r2⟩ := trodAll_cons r1
  obtain ⟨hvsn, rfl, rfl⟩ := trodAll_nil r2
  simp only [hvsn, hvs2, hvs1] at hargs
  obtain rfl : args = #[v0, v1, v2] := by cases args; simp_all
  obtain ⟨p0a, cap0, l0, rfl, i0, e0⟩ := open_rows Tryd.underlying22 Tryd.underlying23 Tryd.underlying3 (by kernel_rfl) (by kernel_rfl) (hval 0 22 v0 rfl rfl) h0 (fun x hx => hlt x (by simp [hx]))
  obtain ⟨p1a, cap1, l1, rfl, i1⟩ := open_intsl Tryd.underlying23 Tryd.underlying3 (by kernel_rfl) (hval 1 23 v1 rfl rfl) h1 (fun x hx => hlt x (by simp [hx]))
  obtain ⟨a2, rfl, rfl, rfl, w2⟩ := open_int Tryd.underlying3 (hval 2 3 v2 rfl rfl) h2
  have b2 := bounds_int w2
  obtain ⟨rfl, rfl⟩ := trodVars_none hV
  clear hA0
  exact law_post 4 laid reads rfl Tryd.underlying4 rfl hW' ⟨rfl, rfl, rfl⟩ (by
    by_cases h : isP a2
    · exact law_good _ _ _ l0 _ _ _ l1 a2 W rfl i0 rfl i1 h
    · exact law_bad _ _ _ l0 _ _ _ a2 W hg rfl i0 h)

set_option maxRecDepth 100000 in
theorem lifted (os : Os) (started : os.Started) (H : Type) (enc : TypeId × Value → H) (F : Stop.Interp) :
    ReturnsInHanded {} Tryd.checked os 3 .any ((OpenSpec.ofChange Rows.learnForgetsSpec).preRow enc Tryd.prog Tryd.f3 Rows.learnForgetsRow.domain false Rows.learnForgetsRow.laid) (((OpenSpec.ofChange Rows.learnForgetsSpec).at F).post enc Tryd.prog Tryd.f3 false true false false) := by
  obtain ⟨places, hx⟩ := reads_wit os enc
  refine returnsInHanded_of_row (C := Tryd.checked) (s := (OpenSpec.ofChange Rows.learnForgetsSpec)) own started (by kernel_rfl) Tryd.func3
    (witness_row_at (enc := enc) (C := Tryd.checked) false (laidWorld os) #[.slice none 0 0, .slice none 0 0, .int .i64 0] rfl (by kernel_rfl) (by kernel_rfl) (by kernel_rfl)
      (OpenSpec.preRow_of_cond 8 hx (by kernel_rfl) (fun k hk => by cases hk) (by kernel_rfl) (laid_met os))) ?_
  intro W base args ds gs before hval hW _ hcond _ hL _ _
  exact contract H enc W base args ds gs before hval hW hL

theorem said : Rows.LearnForgetsSaid :=
  OpenClaim.holds_of_cond 3 Tryd.f3 rfl rfl rfl rfl rfl rfl rfl ⟨rfl, rfl, rfl, rfl, rfl⟩ rfl rfl rfl rfl rfl (by kernel_rfl) Tryd.func3 (by kernel_rfl)
    (of_decide_eq_true (by kernel_rfl)) (by unfold Func.isWrapper; first | (rw [if_pos (by decide +kernel)]; kernel_rfl) | (rw [if_neg (by decide +kernel)]; exact ⟨rfl, rfl⟩))
    (fun os started H enc _ F => by rw [OpenClaim.pre_eq_preRow]; exact lifted os started H enc F)

theorem plain (f : FuncId) (fn : Func) (hf : Tryd.pinned.checked.prog.funcNamed Rows.learnForgetsRow.func = some f) (hfn : Tryd.pinned.checked.prog.funcs[f]? = some fn) :
    true = Tryd.pinned.checked.prog.looks [] ∧ ∀ (j : Nat) t, fn.params[j]? = some t → Tryd.pinned.checked.prog.wantsStandIn t = false := by
  obtain rfl : f = 3 := Option.some.inj ((show Tryd.prog.funcNamed Rows.learnForgetsRow.func = some 3 by kernel_rfl).symm.trans hf) |>.symm
  obtain rfl : fn = Tryd.f3 := (Option.some.inj (Tryd.func3.symm.trans hfn)).symm
  refine ⟨by kernel_rfl, fun j t ht => ?_⟩
  have hall : Tryd.f3.params.toList.all (fun t => !Tryd.prog.wantsStandIn t) = true := by kernel_rfl
  have hm : t ∈ Tryd.f3.params.toList := by simpa using Array.mem_of_getElem? ht
  have := List.all_eq_true.1 hall t hm
  show Tryd.prog.wantsStandIn t = false
  simpa using this

theorem proved : Rows.LearnForgetsCardSaid :=
  Claim7.holds_tied_plain_at .later [] _ _ _ _ said (fun _ h => by cases h) (by kernel_rfl) (fun _ h => by cases h) learnForgets_row_tie rfl ⟨rfl, rfl⟩ (by kernel_rfl) rfl plain (by kernel_rfl)
end Go.Proofs.YtbgbmchpikdgoaaDoor.LearnForgetsL
