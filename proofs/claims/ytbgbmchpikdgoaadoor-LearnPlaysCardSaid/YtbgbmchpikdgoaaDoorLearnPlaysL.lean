/- LearnPlays: of any frames and ports that go down, where they go out and where addresses are is as specified: for every input, the row's handle laid as the card says. -/
import Derived.Test.YtbgbmchpikdgoaaDoorCards
import Derived.Test.YtbgbmchpikdgoaaDoorTie
import Derived.Deep.DeepHandedRow
import Derived.Lib.LaidTab
import Derived.LaidHandle
import Derived.SevenTiedAt
import Derived.Test.YtbgbmchpikdgoaaDoorLearnPair
import Derived.Test.YtbgbmchpikdgoaaDoorLearnRef
import Derived.Test.YtbgbmchpikdgoaaDoorLearnRef3
import Derived.Test.YtbgbmchpikdgoaaDoorRowsAt
import Derived.Test.YtbgbmchpikdgoaaDoorSame
import Derived.Test.YtbgbmchpikdgoaaDoorErrSame
import Derived.Test.YtbgbmchpikdgoaaDoorIn3
import Derived.BigQuiet
import Derived.StillTailTactics
import Derived.Deep.RegionHeld3
import Derived.Deep.RegionWith
import Derived.OrdersHeld
namespace Go.Proofs.YtbgbmchpikdgoaaDoor.LearnPlaysL
open Go.ChangeShapes Go.WideShapes Go.ChangeAt Go.RowKit Go.Proofs.YtbgbmchpikdgoaaDoor.Kit Go.Proofs.YtbgbmchpikdgoaaDoor.App Go.Proofs.YtbgbmchpikdgoaaDoor.Cells Go.Proofs.YtbgbmchpikdgoaaDoor.Err Go.Proofs.YtbgbmchpikdgoaaDoor.As Go.Proofs.YtbgbmchpikdgoaaDoor.Learn
set_option linter.unusedVariables false
set_option maxRecDepth 20000
set_option maxHeartbeats 8000000
abbrev Law (p : Option Addr) (m cap : Nat) (w : World) : Prop := Calls Tryd.prog 4 #[.slice p m cap] w fun e w' => e = .returned (.bool true) ∧ Below w.heap.size w w'
theorem core (p : Option Addr) (n0 cap : Nat) (ls : List (List Int)) (w : World) (hg : Handle w) (hn : n0 = ls.length) (hi : RowsI w p cap ls) : Law p n0 cap w := by
  have hlen := hi.len_le
  rw [← hn] at hlen
  have C0 := Lib.hid (new_any w (fun k => k < w.heap.size) (fun _ h => h))
  have HR := Lib.hid (Drr.rows_both hi)
  have HN := Lib.hid hn
  have ER := Lib.hid (fun c W (hW : Below w.heap.size w W) => err_same c W (hg.below hW))
  clear hi hn hg
  unfold Law
  go_enter Tryd.func4, Tryd.ntmps4
  go_wp2_with fail
  refine C0.out.mono ?_; rintro e w1 ⟨s, rfl, hs1, hb1⟩
  have HP0 := Lib.hid (PS.start hs1 hb1)
  clear hs1 hb1 C0
  go_wp2_with fail
  generalize w1.alloc (.cells #[.slice none 0 0, .slice none 0 0] 39) = w2 at HP0 ⊢
  generalize w1.heap.size = xb at HP0 ⊢
  go_loopw [5] (fun iv wr => ∃ (k : Nat) (pa pp : Option Addr) (n ca cp : Nat) (l : List E), k ≤ n0 ∧ k ≤ 60 ∧ iv = .int .i64 (k : Int) ∧ Hid (PS w wr s xb pa pp n ca cp l l)) (fun i _ => 60 - (intOf i).toNat)
  case atStart => exact ⟨0, none, none, 0, 0, 0, [], Nat.zero_le _, Nat.zero_le _, rfl, HP0⟩
  case round =>
    obtain ⟨k, pa, pp, n, ca, cp, l, hkn, hk60, rfl, HP⟩ := hrel
    clear HP0
    by_cases h1 : k < n0
    · have u1 : decide ((k : Int) < (n0 : Int)) = true := decide_eq_true (by omega)
      by_cases h2 : k < 60
      · have u2 : decide ((k : Int) < 60) = true := decide_eq_true (by omega)
        obtain ⟨b, off, rfl, hr⟩ := HR.out (by rw [← HN.out]; omega)
        obtain ⟨q, c, hlen2, hc⟩ := hr k (by rw [← HN.out]; exact h1)
        clear hr
        generalize Drr.row ls k = y at hlen2 hc
        have hq := (hc wr HP.out.bel).1
        have hI := Lib.hid (hc w (brefl w)).2
        clear hc
        by_cases h3 : y.length = 3
        · obtain ⟨b2, o2, rfl, hcs⟩ := Drr.ints_both hI.out (by omega)
          have HCA := Lib.hid (fun W hW => hcs W hW 0 (by omega))
          have HCB := Lib.hid (fun W hW => hcs W hW 1 (by omega))
          have HCC := Lib.hid (fun W hW => hcs W hW 2 (by omega))
          generalize y[0]?.getD 0 = x0 at HCA
          generalize y[1]?.getD 0 = x1 at HCB
          generalize y[2]?.getD 0 = x2 at HCC
          rw [h3] at hq
          clear hcs hI h3 hlen2
          have c0 : wr.cell? ⟨b2, o2, none⟩ = some (.int .i64 x0) := HCA.out wr HP.out.bel
          have c1 : wr.cell? ⟨b2, o2 + 1, none⟩ = some (.int .i64 x1) := HCB.out wr HP.out.bel
          have c2 : wr.cell? ⟨b2, o2 + 2, none⟩ = some (.int .i64 x2) := HCC.out wr HP.out.bel
          by_cases hF : isA x0 ∧ isA x1 ∧ isP x2
          · have I0 := Lib.hid (fun W => Drr.in_any x0 0 65535 W true (in_true hF.1))
            have I1 := Lib.hid (fun W => Drr.in_any x1 0 65535 W true (in_true hF.2.1))
            have I2 := Lib.hid (fun W => Drr.in_any x2 0 3 W true (in_true hF.2.2))
            have CH := Lib.hid (rheard_any pa pp n n ca cp l x0 x2 wr.drew HP.out.len HP.out.len (show Ints wr.drew pa ca (l.map Prod.fst) from HP.out.a) (show Ints wr.drew pp cp (l.map Prod.snd) from HP.out.p) HP.out.sw.ok hF.1 hF.2.2)
            have HOK2 := Lib.hid (hear_ok HP.out.sw.ok hF.1 hF.2.2)
            have CG := Lib.hid (fun X W (H : Sw X W s l) => frame_good X s l x0 x1 x2 W H hF.1 hF.2.1 hF.2.2)
            have CO := Lib.hid (fun (pa pp : Option Addr) (n ca cp : Nat) W (hn : n = (hear l x0 x2).length) hi hj => rout_any pa pp n n ca cp (hear l x0 x2) x1 x2 W hn hn hi hj HOK2.out hF.2.2)
            have E0 := Lib.hid (fun W hW => ER.out 0 W hW)
            rw [er_0] at CG E0
            generalize hear l x0 x2 = l2 at CH HOK2 CG CO
            obtain ⟨N2, hN2⟩ : ∃ N2, l2.length = N2 := ⟨_, rfl⟩
            rw [hN2] at CH
            have HN2 := Lib.hid hN2
            have d0 := HP.out.x.cell 0 _ rfl
            have d1 := HP.out.x.cell 1 _ rfl
            have f0 := HP.out.x.fz 0
            have f1 := HP.out.x.fz 1
            clear hF hN2
            go_wp2_with fail
            refine (I0.out _).mono ?_; rintro e w3 ⟨rfl, rfl⟩
            go_wp2_with fail
            refine (I1.out _).mono ?_; rintro e w4 ⟨rfl, rfl⟩
            go_wp2_with fail
            refine (I2.out _).mono ?_; rintro e w5 ⟨rfl, rfl⟩
            clear I0 I1 I2
            go_wp2_with fail
            go_still_tail 7, (by kernel_rfl)
            change wpList _ _ _ _ _ w5.drew
            go_wp2_with fail
            refine CH.out.mono ?_; rintro e w6 ⟨pa2, pp2, ca2, cp2, rfl, ht6, hb6⟩
            have hb6 : Below w5.heap.size w5 w6 := ⟨hb6.os, hb6.tape, hb6.output, hb6.size, hb6.block⟩
            have HP6 := Lib.hid (HP.out.store hb6 ht6 HN2.out.symm)
            have hx6 := HP.out.x.below hb6
            have d2 := hx6.cell 0 _ rfl
            have d3 := hx6.cell 1 _ rfl
            have f2 := hx6.fz 0
            have f3 := hx6.fz 1
            clear CH hb6 ht6 hx6 d0 d1 f0 f1 c0 c1 c2 HP hq
            go_wp2_with fail
            generalize (w6.setCell ⟨xb, 0, none⟩ (.slice pa2 N2 ca2)).setCell ⟨xb, 1, none⟩ (.slice pp2 N2 cp2) = w7 at HP6 ⊢
            clear d2 d3 f2 f3
            have d0 := HP6.out.x.cell 0 _ rfl
            have d1 := HP6.out.x.cell 1 _ rfl
            have c0 : w7.cell? ⟨b2, o2, none⟩ = some (.int .i64 x0) := HCA.out w7 HP6.out.bel
            have c1 : w7.cell? ⟨b2, o2 + 1, none⟩ = some (.int .i64 x1) := HCB.out w7 HP6.out.bel
            have c2 : w7.cell? ⟨b2, o2 + 2, none⟩ = some (.int .i64 x2) := HCC.out w7 HP6.out.bel
            have CO7 := Lib.hid (CO.out pa2 pp2 N2 ca2 cp2 w7.drew HN2.out.symm (show Ints w7.drew pa2 ca2 (l2.map Prod.fst) from HP6.out.a) (show Ints w7.drew pp2 cp2 (l2.map Prod.snd) from HP6.out.p))
            generalize out l2 x1 x2 = ol at CO7 CG
            go_still_tail 7, (by kernel_rfl)
            change wpList _ _ _ _ _ w7.drew
            go_wp2_with fail
            refine CO7.out.mono ?_; rintro e w8 ⟨v, rfl, ho8, hb8⟩
            have hb8 : Below w7.heap.size w7 w8 := ⟨hb8.os, hb8.tape, hb8.output, hb8.size, hb8.block⟩
            have ho8 : OwnI w8 w7.heap.size v ol := ho8
            have HS8 := Lib.hid (HP6.out.sw.res hb8 ho8)
            have HP8 := Lib.hid (HP6.out.below hb8)
            obtain ⟨p8, c8, rfl, hi8, ha8⟩ := own_read ho8
            have HI8 := Lib.hid hi8
            have HA8 := Lib.hid (fun a e => (ha8 a e).2.2)
            clear hb8 ho8 hi8 ha8 CO7 HP6 d0 d1 c0 c1 c2 CO
            have c0 : w8.cell? ⟨b2, o2, none⟩ = some (.int .i64 x0) := HCA.out w8 HP8.out.bel
            have c1 : w8.cell? ⟨b2, o2 + 1, none⟩ = some (.int .i64 x1) := HCB.out w8 HP8.out.bel
            have c2 : w8.cell? ⟨b2, o2 + 2, none⟩ = some (.int .i64 x2) := HCC.out w8 HP8.out.bel
            have CG8 := Lib.hid (CG.out _ w8.drew (show Sw _ w8.drew s l from HS8.out.below ⟨rfl, rfl, rfl, Nat.le_refl _, fun _ _ => rfl⟩))
            go_wp2_with fail
            refine wp_region_held_drew (S := (fun W' => W'.cell? ⟨b2, o2, none⟩ = some (.int .i64 x0) ∧ W'.cell? ⟨b2, o2 + 1, none⟩ = some (.int .i64 x1) ∧ W'.cell? ⟨b2, o2 + 2, none⟩ = some (.int .i64 x2))) (by kernel_rfl) (⟨c0, c1, c2⟩) (fun hHeld => ?_)
            refine wpAnyH_take (i := 0) (oi := ⟨some 73, _, _, _, _, _⟩) (v := ?vr20) rfl (by kernel_rfl) (by kernel_rfl) (by kernel_rfl) (fun _ _ _ h => h) (Or.inl ⟨by rfl, ?hyr20⟩) hHeld ?restr20
            case hyr20 => (intro W hSw; (try dsimp only at hSw); (try obtain ⟨hSw1, hSw2⟩ := hSw); (try obtain ⟨hSw2, hSw3⟩ := hSw2); go_simp; first | done | with_reducible rfl)
            simp only [Act.put, List.setIfInBounds_toArray, List.set_cons_zero, List.set_cons_succ]
            refine wpAnyH_take (i := 1) (oi := ⟨some 74, _, _, _, _, _⟩) (v := ?vr21) rfl (by kernel_rfl) (by kernel_rfl) (by kernel_rfl) (fun _ _ _ h => h) (Or.inl ⟨by rfl, ?hyr21⟩) hHeld ?restr21
            case hyr21 => (intro W hSw; (try dsimp only at hSw); (try obtain ⟨hSw1, hSw2⟩ := hSw); (try obtain ⟨hSw2, hSw3⟩ := hSw2); go_simp; first | done | with_reducible rfl)
            simp only [Act.put, List.setIfInBounds_toArray, List.set_cons_zero, List.set_cons_succ]
            refine wpAnyH_take (i := 2) (oi := ⟨some 75, _, _, _, _, _⟩) (v := ?vr22) rfl (by kernel_rfl) (by kernel_rfl) (by kernel_rfl) (fun _ _ _ h => h) (Or.inl ⟨by rfl, ?hyr22⟩) hHeld ?restr22
            case hyr22 => (intro W hSw; (try dsimp only at hSw); (try obtain ⟨hSw1, hSw2⟩ := hSw); (try obtain ⟨hSw2, hSw3⟩ := hSw2); go_simp; first | done | with_reducible rfl)
            simp only [Act.put, List.setIfInBounds_toArray, List.set_cons_zero, List.set_cons_succ]
            refine wpAnyH_take (i := 3) (oi := ⟨some 76, _, _, _, _, _⟩) (v := ?vr23) rfl (by kernel_rfl) (by kernel_rfl) (by kernel_rfl) (fun _ _ _ h => h) (Or.inl ⟨by rfl, ?hyr23⟩) hHeld ?restr23
            case hyr23 => (intro W hSw; (try dsimp only at hSw); (try obtain ⟨hSw1, hSw2⟩ := hSw); (try obtain ⟨hSw2, hSw3⟩ := hSw2); go_simp; first | done | with_reducible rfl)
            simp only [Act.put, List.setIfInBounds_toArray, List.set_cons_zero, List.set_cons_succ]
            refine wpAnyH_take (i := 4) (oi := ⟨some 77, _, _, _, _, _⟩) (v := ?vr24) rfl (by kernel_rfl) (by kernel_rfl) (by kernel_rfl) (fun _ _ _ h => h) (Or.inl ⟨by rfl, ?hyr24⟩) hHeld ?restr24
            case hyr24 => (intro W hSw; (try dsimp only at hSw); (try obtain ⟨hSw1, hSw2⟩ := hSw); (try obtain ⟨hSw2, hSw3⟩ := hSw2); go_simp; first | done | with_reducible rfl)
            simp only [Act.put, List.setIfInBounds_toArray, List.set_cons_zero, List.set_cons_succ]
            refine wpAnyH_take (i := 5) (oi := ⟨some 78, _, _, _, _, _⟩) (v := ?vr25) rfl (by kernel_rfl) (by kernel_rfl) (by kernel_rfl) (fun _ _ _ h => h) (Or.inl ⟨by rfl, ?hyr25⟩) hHeld ?restr25
            case hyr25 => (intro W hSw; (try dsimp only at hSw); (try obtain ⟨hSw1, hSw2⟩ := hSw); (try obtain ⟨hSw2, hSw3⟩ := hSw2); go_simp; first | done | with_reducible rfl)
            simp only [Act.put, List.setIfInBounds_toArray, List.set_cons_zero, List.set_cons_succ]
            refine wpAnyH_take (i := 6) (oi := ⟨some 79, _, _, _, _, _⟩) (v := ?vr26) rfl (by kernel_rfl) (by kernel_rfl) (by kernel_rfl) (fun _ _ _ h => h) (Or.inl ⟨by rfl, ?hyr26⟩) hHeld ?restr26
            case hyr26 => (intro W hSw; (try dsimp only at hSw); (try obtain ⟨hSw1, hSw2⟩ := hSw); (try obtain ⟨hSw2, hSw3⟩ := hSw2); go_simp; first | done | with_reducible rfl)
            simp only [Act.put, List.setIfInBounds_toArray, List.set_cons_zero, List.set_cons_succ]
            refine wpAnyH_take (i := 7) (oi := ⟨some 80, _, _, _, _, _⟩) (v := ?vr27) rfl (by kernel_rfl) (by kernel_rfl) (by kernel_rfl) (fun _ _ _ h => h) (Or.inl ⟨by rfl, ?hyr27⟩) hHeld ?restr27
            case hyr27 => (intro W hSw; (try dsimp only at hSw); (try obtain ⟨hSw1, hSw2⟩ := hSw); (try obtain ⟨hSw2, hSw3⟩ := hSw2); go_simp; first | done | with_reducible rfl)
            simp only [Act.put, List.setIfInBounds_toArray, List.set_cons_zero, List.set_cons_succ]
            refine wpAnyH_take (i := 8) (oi := ⟨some 81, _, _, _, _, _⟩) (v := ?vr28) rfl (by kernel_rfl) (by kernel_rfl) (by kernel_rfl) (fun _ _ _ h => h) (Or.inl ⟨by rfl, ?hyr28⟩) hHeld ?restr28
            case hyr28 => (intro W hSw; (try dsimp only at hSw); (try obtain ⟨hSw1, hSw2⟩ := hSw); (try obtain ⟨hSw2, hSw3⟩ := hSw2); go_simp; first | done | with_reducible rfl)
            simp only [Act.put, List.setIfInBounds_toArray, List.set_cons_zero, List.set_cons_succ]
            refine wpAnyH_take (i := 9) (oi := ⟨some 82, _, _, _, _, _⟩) (v := ?vr29) rfl (by kernel_rfl) (by kernel_rfl) (by kernel_rfl) (fun _ _ _ h => h) (Or.inl ⟨by rfl, ?hyr29⟩) hHeld ?restr29
            case hyr29 => (intro W hSw; (try dsimp only at hSw); (try obtain ⟨hSw1, hSw2⟩ := hSw); (try obtain ⟨hSw2, hSw3⟩ := hSw2); go_simp; first | done | with_reducible rfl)
            simp only [Act.put, List.setIfInBounds_toArray, List.set_cons_zero, List.set_cons_succ]
            refine wpAnyH_ready (rs := [10]) (by kernel_rfl) (by simp) ?_
            refine AllReadyH.cons (o := ⟨some 83, _, _, _, _, _⟩) rfl (fun KK hK => ?_) AllReadyH.nil
            go_simp
            refine CG8.out.mono ?_; rintro e w9 ⟨v, rfl, ho9, hs9, hk9⟩
            have hk9 : Keep _ w8 w9 := ⟨hk9.os, hk9.tape, hk9.output, hk9.size, hk9.block⟩
            have HP9 := Lib.hid (HP8.out.turn (hs9.mono (Y := XQ w xb pa2 pp2) (fun k h => .inl (.inl h))) (hk9.mono (fun k h => .inl h)))
            have HI9 := Lib.hid (hk9.ints HI8.out (fun a e => .inr (HA8.out a e)))
            obtain ⟨p9, c9, rfl, hi9, ha9⟩ := own_read ho9
            have HI10 := Lib.hid hi9
            have c3 : w9.cell? ⟨b2, o2, none⟩ = some (.int .i64 x0) := HCA.out w9 HP9.out.bel
            have c4 : w9.cell? ⟨b2, o2 + 1, none⟩ = some (.int .i64 x1) := HCB.out w9 HP9.out.bel
            have c5 : w9.cell? ⟨b2, o2 + 2, none⟩ = some (.int .i64 x2) := HCC.out w9 HP9.out.bel
            clear hk9 hs9 ho9 hi9 ha9
            go_wp2_with fail
            refine hK.out _ _ (⟨c3, c4, c5⟩) (fun hHeld2 => ?_)
            clear hK KK
            try simp only [Act.put, List.setIfInBounds_toArray, List.set_cons_zero, List.set_cons_succ]
            refine wpAnyH_take (i := 11) (oi := ⟨some 72, _, _, _, _, _⟩) (v := ?vr211) rfl (by kernel_rfl) (by kernel_rfl) (by kernel_rfl) (fun _ _ _ h => h) (Or.inl ⟨by rfl, ?hyr211⟩) hHeld2 ?restr211
            case hyr211 => (intro W hSw; (try dsimp only at hSw); (try obtain ⟨hSw1, hSw2⟩ := hSw); (try obtain ⟨hSw2, hSw3⟩ := hSw2); go_simp; first | done | with_reducible rfl)
            simp only [Act.put, List.setIfInBounds_toArray, List.set_cons_zero, List.set_cons_succ]
            refine wpAnyH_take (i := 12) (oi := ⟨some 84, _, _, _, _, _⟩) (v := ?vr212) rfl (by kernel_rfl) (by kernel_rfl) (by kernel_rfl) (fun _ _ _ h => h) (Or.inl ⟨by rfl, ?hyr212⟩) hHeld2 ?restr212
            case hyr212 => (intro W hSw; (try dsimp only at hSw); (try obtain ⟨hSw1, hSw2⟩ := hSw); (try obtain ⟨hSw2, hSw3⟩ := hSw2); go_simp; first | done | with_reducible rfl)
            simp only [Act.put, List.setIfInBounds_toArray, List.set_cons_zero, List.set_cons_succ]
            refine wpAnyH_take (i := 13) (oi := ⟨some 85, _, _, _, _, _⟩) (v := ?vr213) rfl (by kernel_rfl) (by kernel_rfl) (by kernel_rfl) (fun _ _ _ h => h) (Or.inl ⟨by rfl, ?hyr213⟩) hHeld2 ?restr213
            case hyr213 => (intro W hSw; (try dsimp only at hSw); (try obtain ⟨hSw1, hSw2⟩ := hSw); (try obtain ⟨hSw2, hSw3⟩ := hSw2); go_simp; first | done | with_reducible rfl)
            simp only [Act.put, List.setIfInBounds_toArray, List.set_cons_zero, List.set_cons_succ]
            refine wpAnyH_take (i := 14) (oi := ⟨some 9, _, _, _, _, _⟩) (v := ?vr214) rfl (by kernel_rfl) (by kernel_rfl) (by kernel_rfl) (fun _ _ _ h => h) (Or.inl ⟨by rfl, ?hyr214⟩) hHeld2 ?restr214
            case hyr214 => (intro W hSw; (try dsimp only at hSw); (try obtain ⟨hSw1, hSw2⟩ := hSw); (try obtain ⟨hSw2, hSw3⟩ := hSw2); go_simp; first | done | with_reducible rfl)
            simp only [Act.put, List.setIfInBounds_toArray, List.set_cons_zero, List.set_cons_succ]
            refine wpAnyH_take (i := 15) (oi := ⟨some 10, _, _, _, _, _⟩) (v := ?vr215) rfl (by kernel_rfl) (by kernel_rfl) (by kernel_rfl) (fun _ _ _ h => h) (Or.inl ⟨by rfl, ?hyr215⟩) hHeld2 ?restr215
            case hyr215 => (intro W hSw; (try dsimp only at hSw); (try obtain ⟨hSw1, hSw2⟩ := hSw); (try obtain ⟨hSw2, hSw3⟩ := hSw2); go_simp; first | done | with_reducible rfl)
            simp only [Act.put, List.setIfInBounds_toArray, List.set_cons_zero, List.set_cons_succ]
            refine wpAnyH_done (by kernel_rfl) ?_ _
            clear c0 c1 c2 c3 c4 c5 hHeld hHeld2 CG8 CG HP8 HS8 HI8 HA8
            obtain ⟨M, hM⟩ : ∃ M, ol.length = M := ⟨_, rfl⟩
            have hML := HI10.out.len_le
            rw [hM] at hML
            rw [hM]
            have HML := Lib.hid hM
            clear hM
            go_wp2_with fail
            refine (E0.out w9 HP9.out.bel).mono ?_; rintro e w10 ⟨rfl, hb10⟩
            have HP10 := Lib.hid (HP9.out.below hb10)
            have EI := Lib.hid (ints_any p9 p8 c9 c8 M M ol ol w10 HML.out.symm HML.out.symm (HI10.out.below hb10) (HI9.out.below hb10) true (by simp))
            clear hb10 HP9 HI9 HI10 E0
            go_wp2_with fail
            refine EI.out.mono ?_; rintro e w11 ⟨rfl, hb11⟩
            have HP := Lib.hid (HP10.out.below hb11)
            clear hb11 HP10 EI
            go_wp2_with fail
            go_loopw [16] (fun av wr => ∃ j : Nat, j ≤ 13 ∧ av = .int .i64 ((j : Int) - 1) ∧ Hid (PS w wr s xb (pa2) (pp2) (N2) (ca2) (cp2) (l2) (l2))) (fun i _ => (12 - intOf i).toNat)
            case atStart => exact ⟨0, by omega, rfl, HP⟩
            case round =>
              obtain ⟨j, hj, rfl, HQ⟩ := hrel
              clear HP
              obtain ⟨z, hz⟩ : ∃ z, (j : Int) - 1 = z := ⟨_, rfl⟩
              rw [hz]
              by_cases hj13 : j < 13
              · have u5 : decide (z < 12) = true := decide_eq_true (by omega)
                have wr1 : IntKind.i64.wrap (z + 1) = z + 1 := by rw [IntKind.wrap_i64]; omega
                have HZ := Lib.hid (show ((j + 1 : Nat) : Int) - 1 = z + 1 by omega)
                have HZ2 := Lib.hid (show z = (j : Int) - 1 by omega)
                have HJ := Lib.hid hj13
                have d0 := HQ.out.x.cell 0 _ rfl
                have d1 := HQ.out.x.cell 1 _ rfl
                have CF := Lib.hid (fun W (hW : PS w W s xb (pa2) (pp2) (N2) (ca2) (cp2) (l2) (l2)) => rfind_any (pa2) (pp2) (N2) (N2) (ca2) (cp2) (l2) z W hW.len hW.a)
                have CP2 := Lib.hid (fun W (hW : PS w W s xb (pa2) (pp2) (N2) (ca2) (cp2) (l2) (l2)) => port_any _ s (l2) z W hW.sw)
                clear hz hj13
                rcases idx_cases (l2) z with ⟨g1, g2⟩ | ⟨k2, x, g1, g2, g3⟩
                · rw [g1] at CF
                  rw [g2] at CP2
                  clear g1 g2
                  go_wp2_with fail
                  refine (CF.out wr HQ.out).mono ?_; rintro e w20 ⟨rfl, hb20⟩
                  have HQ2 := Lib.hid (HQ.out.below hb20)
                  clear hb20 CF HQ
                  go_wp2_with fail
                  refine (CP2.out w20 HQ2.out).mono ?_; rintro e w21 ⟨rfl, hb21⟩
                  have HQ3 := Lib.hid (HQ2.out.below hb21)
                  clear hb21 CP2 HQ2
                  go_wp2_with fail
                  go_roundw
                  case rel => exact ⟨j + 1, by have := HJ.out; omega, by rw [HZ.out], HQ3⟩
                  case measure => have := HJ.out; have := HZ2.out; simp [intOf]; omega
                · rw [g1] at CF
                  rw [g3] at CP2
                  have u6 : decide ((k2 : Int) ≥ 0) = true := decide_eq_true (by omega)
                  have hk2 := lt_of_at g2
                  have hlen := HQ.out.len
                  rw [← hlen] at hk2
                  have hk2z : (k2 : Int) < ((N2 : Nat) : Int) := by omega
                  obtain ⟨b3, o3, e3, hcc⟩ := Drr.ints_both HQ.out.p (by rw [List.length_map]; omega)
                  have HCC := Lib.hid (fun W hW => (hcc W hW k2 (by rw [List.length_map]; omega)).trans (by rw [snd_at g2]))
                  obtain ⟨x1, x2⟩ := x
                  simp only at HCC CP2
                  subst e3
                  clear g1 g2 g3 hcc hlen
                  go_wp2_with fail
                  refine (CF.out wr HQ.out).mono ?_; rintro e w20 ⟨rfl, hb20⟩
                  have HQ2 := Lib.hid (HQ.out.below hb20)
                  have HB20 := Lib.hid hb20
                  clear hb20
                  have d0 := HQ2.out.x.cell 0 _ rfl
                  have d1 := HQ2.out.x.cell 1 _ rfl
                  have d2 := HCC.out w20 HB20.out
                  go_wp2_with fail
                  refine wp_region_held_drew (S := (fun W' => W'.cell? ⟨xb, 0, none⟩ = some (.slice pa2 (N2) (ca2)) ∧ W'.cell? ⟨xb, 1, none⟩ = some (.slice (some ⟨b3, o3, none⟩) (N2) (cp2)) ∧ W'.cell? ⟨b3, o3 + k2, none⟩ = some (.int .i64 x2))) (by kernel_rfl) (⟨d0, d1, d2⟩) (fun hHeld => ?_)
                  refine wpAnyH_take (i := 0) (oi := ⟨some 141, _, _, _, _, _⟩) (v := ?vr30) rfl (by kernel_rfl) (by kernel_rfl) (by kernel_rfl) (fun _ _ _ h => h) (Or.inl ⟨by rfl, ?hyr30⟩) hHeld ?restr30
                  case hyr30 => (intro W hSw; (try dsimp only at hSw); (try obtain ⟨hSw1, hSw2⟩ := hSw); (try obtain ⟨hSw2, hSw3⟩ := hSw2); go_simp; first | done | with_reducible rfl)
                  simp only [Act.put, List.setIfInBounds_toArray, List.set_cons_zero, List.set_cons_succ]
                  refine wpAnyH_take (i := 1) (oi := ⟨some 142, _, _, _, _, _⟩) (v := ?vr31) rfl (by kernel_rfl) (by kernel_rfl) (by kernel_rfl) (fun _ _ _ h => h) (Or.inl ⟨by rfl, ?hyr31⟩) hHeld ?restr31
                  case hyr31 => (intro W hSw; (try dsimp only at hSw); (try obtain ⟨hSw1, hSw2⟩ := hSw); (try obtain ⟨hSw2, hSw3⟩ := hSw2); go_simp; first | done | with_reducible rfl)
                  simp only [Act.put, List.setIfInBounds_toArray, List.set_cons_zero, List.set_cons_succ]
                  refine wpAnyH_take (i := 2) (oi := ⟨some 143, _, _, _, _, _⟩) (v := ?vr32) rfl (by kernel_rfl) (by kernel_rfl) (by kernel_rfl) (fun _ _ _ h => h) (Or.inl ⟨by rfl, ?hyr32⟩) hHeld ?restr32
                  case hyr32 => (intro W hSw; (try dsimp only at hSw); (try obtain ⟨hSw1, hSw2⟩ := hSw); (try obtain ⟨hSw2, hSw3⟩ := hSw2); go_simp; first | done | with_reducible rfl)
                  simp only [Act.put, List.setIfInBounds_toArray, List.set_cons_zero, List.set_cons_succ]
                  refine wpAnyH_take (i := 3) (oi := ⟨some 144, _, _, _, _, _⟩) (v := ?vr33) rfl (by kernel_rfl) (by kernel_rfl) (by kernel_rfl) (fun _ _ _ h => h) (Or.inl ⟨by rfl, ?hyr33⟩) hHeld ?restr33
                  case hyr33 => (intro W hSw; (try dsimp only at hSw); (try obtain ⟨hSw1, hSw2⟩ := hSw); (try obtain ⟨hSw2, hSw3⟩ := hSw2); go_simp; first | done | with_reducible rfl)
                  simp only [Act.put, List.setIfInBounds_toArray, List.set_cons_zero, List.set_cons_succ]
                  refine wpAnyH_ready (rs := [4]) (by kernel_rfl) (by simp) ?_
                  refine AllReadyH.cons (o := ⟨some 145, _, _, _, _, _⟩) rfl (fun KK hK => ?_) AllReadyH.nil
                  go_simp
                  refine (CF.out w20.drew (HQ2.out.below ⟨rfl, rfl, rfl, Nat.le_refl _, fun _ _ => rfl⟩)).mono ?_; rintro e w22 ⟨rfl, hb22⟩
                  have hb23 : Below w20.heap.size w20 w22 := ⟨hb22.os, hb22.tape, hb22.output, hb22.size, hb22.block⟩
                  have HQ4 := Lib.hid (HQ2.out.below hb23)
                  have d3 := HQ4.out.x.cell 0 _ rfl
                  have d4 := HQ4.out.x.cell 1 _ rfl
                  have d5 := HCC.out w22 (bcall HB20.out hb23)
                  clear hb22 hb23
                  go_wp2_with fail
                  refine hK.out _ _ (⟨d3, d4, d5⟩) (fun hHeld2 => ?_)
                  clear hK KK
                  try simp only [Act.put, List.setIfInBounds_toArray, List.set_cons_zero, List.set_cons_succ]
                  refine wpAnyH_take (i := 5) (oi := ⟨some 146, _, _, _, _, _⟩) (v := ?vr35) rfl (by kernel_rfl) (by kernel_rfl) (by kernel_rfl) (fun _ _ _ h => h) (Or.inl ⟨by rfl, ?hyr35⟩) hHeld2 ?restr35
                  case hyr35 => (intro W hSw; (try dsimp only at hSw); (try obtain ⟨hSw1, hSw2⟩ := hSw); (try obtain ⟨hSw2, hSw3⟩ := hSw2); go_simp; first | done | with_reducible rfl)
                  simp only [Act.put, List.setIfInBounds_toArray, List.set_cons_zero, List.set_cons_succ]
                  refine wpAnyH_take (i := 6) (oi := ⟨some 147, _, _, _, _, _⟩) (v := ?vr36) rfl (by kernel_rfl) (by kernel_rfl) (by kernel_rfl) (fun _ _ _ h => h) (Or.inl ⟨by rfl, ?hyr36⟩) hHeld2 ?restr36
                  case hyr36 => (intro W hSw; (try dsimp only at hSw); (try obtain ⟨hSw1, hSw2⟩ := hSw); (try obtain ⟨hSw2, hSw3⟩ := hSw2); go_simp; first | done | with_reducible rfl)
                  simp only [Act.put, List.setIfInBounds_toArray, List.set_cons_zero, List.set_cons_succ]
                  refine wpAnyH_take (i := 7) (oi := ⟨some 17, _, _, _, _, _⟩) (v := ?vr37) rfl (by kernel_rfl) (by kernel_rfl) (by kernel_rfl) (fun _ _ _ h => h) (Or.inl ⟨by rfl, ?hyr37⟩) hHeld2 ?restr37
                  case hyr37 => (intro W hSw; (try dsimp only at hSw); (try obtain ⟨hSw1, hSw2⟩ := hSw); (try obtain ⟨hSw2, hSw3⟩ := hSw2); go_simp; first | done | with_reducible rfl)
                  simp only [Act.put, List.setIfInBounds_toArray, List.set_cons_zero, List.set_cons_succ]
                  refine wpAnyH_done (by kernel_rfl) ?_ _
                  clear hHeld hHeld2 d0 d1 d2 d3 d4 d5 HQ HQ2 CF
                  go_wp2_with fail
                  refine (CP2.out w22 HQ4.out).mono ?_; rintro e w21 ⟨rfl, hb21⟩
                  have HQ3 := Lib.hid (HQ4.out.below hb21)
                  clear hb21 CP2 HQ4
                  go_wp2_with fail
                  go_roundw
                  case rel => exact ⟨j + 1, by have := HJ.out; omega, by rw [HZ.out], HQ3⟩
                  case measure => have := HJ.out; have := HZ2.out; simp [intOf]; omega
              · have hj2 : j = 13 := by omega
                have hz12 : z = 12 := by omega
                subst hz12
                subst hj2
                clear hz hj13
                go_wp2_with fail
                go_roundw
                case rel => exact ⟨k + 1, pa2, pp2, N2, ca2, cp2, l2, by omega, by omega, by first | rfl | go_num, HQ⟩
                case measure => simp [intOf]; omega
          · have CB := Lib.hid (frame_bad s x0 x1 x2 wr.drew hF)
            have E1 := Lib.hid (fun W hW => ER.out 1 W hW)
            rw [er_1] at CB E1
            by_cases hA : isA x0
            · have I0 := Lib.hid (fun W => Drr.in_any x0 0 65535 W true (in_true hA))
              by_cases hB : isA x1
              · have I1 := Lib.hid (fun W => Drr.in_any x1 0 65535 W true (in_true hB))
                have I2 := Lib.hid (fun W => Drr.in_any x2 0 3 W false (in_false (fun h => hF ⟨hA, hB, h⟩)))
                clear hA hB hF
                go_wp2_with fail
                refine (I0.out _).mono ?_; rintro e w3 ⟨rfl, rfl⟩
                go_wp2_with fail
                refine (I1.out _).mono ?_; rintro e w4 ⟨rfl, rfl⟩
                go_wp2_with fail
                refine (I2.out _).mono ?_; rintro e w5 ⟨rfl, rfl⟩
                clear I0 I1 I2
                go_wp2_with fail
                refine wp_region_held_drew (S := (fun W' => W'.cell? ⟨b2, o2, none⟩ = some (.int .i64 x0) ∧ W'.cell? ⟨b2, o2 + 1, none⟩ = some (.int .i64 x1) ∧ W'.cell? ⟨b2, o2 + 2, none⟩ = some (.int .i64 x2))) (by kernel_rfl) (⟨c0, c1, c2⟩) (fun hHeld => ?_)
                refine wpAnyH_take (i := 0) (oi := ⟨some 73, _, _, _, _, _⟩) (v := ?vr40) rfl (by kernel_rfl) (by kernel_rfl) (by kernel_rfl) (fun _ _ _ h => h) (Or.inl ⟨by rfl, ?hyr40⟩) hHeld ?restr40
                case hyr40 => (intro W hSw; (try dsimp only at hSw); (try obtain ⟨hSw1, hSw2⟩ := hSw); (try obtain ⟨hSw2, hSw3⟩ := hSw2); go_simp; first | done | with_reducible rfl)
                simp only [Act.put, List.setIfInBounds_toArray, List.set_cons_zero, List.set_cons_succ]
                refine wpAnyH_take (i := 1) (oi := ⟨some 74, _, _, _, _, _⟩) (v := ?vr41) rfl (by kernel_rfl) (by kernel_rfl) (by kernel_rfl) (fun _ _ _ h => h) (Or.inl ⟨by rfl, ?hyr41⟩) hHeld ?restr41
                case hyr41 => (intro W hSw; (try dsimp only at hSw); (try obtain ⟨hSw1, hSw2⟩ := hSw); (try obtain ⟨hSw2, hSw3⟩ := hSw2); go_simp; first | done | with_reducible rfl)
                simp only [Act.put, List.setIfInBounds_toArray, List.set_cons_zero, List.set_cons_succ]
                refine wpAnyH_take (i := 2) (oi := ⟨some 75, _, _, _, _, _⟩) (v := ?vr42) rfl (by kernel_rfl) (by kernel_rfl) (by kernel_rfl) (fun _ _ _ h => h) (Or.inl ⟨by rfl, ?hyr42⟩) hHeld ?restr42
                case hyr42 => (intro W hSw; (try dsimp only at hSw); (try obtain ⟨hSw1, hSw2⟩ := hSw); (try obtain ⟨hSw2, hSw3⟩ := hSw2); go_simp; first | done | with_reducible rfl)
                simp only [Act.put, List.setIfInBounds_toArray, List.set_cons_zero, List.set_cons_succ]
                refine wpAnyH_take (i := 3) (oi := ⟨some 76, _, _, _, _, _⟩) (v := ?vr43) rfl (by kernel_rfl) (by kernel_rfl) (by kernel_rfl) (fun _ _ _ h => h) (Or.inl ⟨by rfl, ?hyr43⟩) hHeld ?restr43
                case hyr43 => (intro W hSw; (try dsimp only at hSw); (try obtain ⟨hSw1, hSw2⟩ := hSw); (try obtain ⟨hSw2, hSw3⟩ := hSw2); go_simp; first | done | with_reducible rfl)
                simp only [Act.put, List.setIfInBounds_toArray, List.set_cons_zero, List.set_cons_succ]
                refine wpAnyH_take (i := 4) (oi := ⟨some 77, _, _, _, _, _⟩) (v := ?vr44) rfl (by kernel_rfl) (by kernel_rfl) (by kernel_rfl) (fun _ _ _ h => h) (Or.inl ⟨by rfl, ?hyr44⟩) hHeld ?restr44
                case hyr44 => (intro W hSw; (try dsimp only at hSw); (try obtain ⟨hSw1, hSw2⟩ := hSw); (try obtain ⟨hSw2, hSw3⟩ := hSw2); go_simp; first | done | with_reducible rfl)
                simp only [Act.put, List.setIfInBounds_toArray, List.set_cons_zero, List.set_cons_succ]
                refine wpAnyH_take (i := 5) (oi := ⟨some 78, _, _, _, _, _⟩) (v := ?vr45) rfl (by kernel_rfl) (by kernel_rfl) (by kernel_rfl) (fun _ _ _ h => h) (Or.inl ⟨by rfl, ?hyr45⟩) hHeld ?restr45
                case hyr45 => (intro W hSw; (try dsimp only at hSw); (try obtain ⟨hSw1, hSw2⟩ := hSw); (try obtain ⟨hSw2, hSw3⟩ := hSw2); go_simp; first | done | with_reducible rfl)
                simp only [Act.put, List.setIfInBounds_toArray, List.set_cons_zero, List.set_cons_succ]
                refine wpAnyH_take (i := 6) (oi := ⟨some 79, _, _, _, _, _⟩) (v := ?vr46) rfl (by kernel_rfl) (by kernel_rfl) (by kernel_rfl) (fun _ _ _ h => h) (Or.inl ⟨by rfl, ?hyr46⟩) hHeld ?restr46
                case hyr46 => (intro W hSw; (try dsimp only at hSw); (try obtain ⟨hSw1, hSw2⟩ := hSw); (try obtain ⟨hSw2, hSw3⟩ := hSw2); go_simp; first | done | with_reducible rfl)
                simp only [Act.put, List.setIfInBounds_toArray, List.set_cons_zero, List.set_cons_succ]
                refine wpAnyH_take (i := 7) (oi := ⟨some 80, _, _, _, _, _⟩) (v := ?vr47) rfl (by kernel_rfl) (by kernel_rfl) (by kernel_rfl) (fun _ _ _ h => h) (Or.inl ⟨by rfl, ?hyr47⟩) hHeld ?restr47
                case hyr47 => (intro W hSw; (try dsimp only at hSw); (try obtain ⟨hSw1, hSw2⟩ := hSw); (try obtain ⟨hSw2, hSw3⟩ := hSw2); go_simp; first | done | with_reducible rfl)
                simp only [Act.put, List.setIfInBounds_toArray, List.set_cons_zero, List.set_cons_succ]
                refine wpAnyH_take (i := 8) (oi := ⟨some 81, _, _, _, _, _⟩) (v := ?vr48) rfl (by kernel_rfl) (by kernel_rfl) (by kernel_rfl) (fun _ _ _ h => h) (Or.inl ⟨by rfl, ?hyr48⟩) hHeld ?restr48
                case hyr48 => (intro W hSw; (try dsimp only at hSw); (try obtain ⟨hSw1, hSw2⟩ := hSw); (try obtain ⟨hSw2, hSw3⟩ := hSw2); go_simp; first | done | with_reducible rfl)
                simp only [Act.put, List.setIfInBounds_toArray, List.set_cons_zero, List.set_cons_succ]
                refine wpAnyH_take (i := 9) (oi := ⟨some 82, _, _, _, _, _⟩) (v := ?vr49) rfl (by kernel_rfl) (by kernel_rfl) (by kernel_rfl) (fun _ _ _ h => h) (Or.inl ⟨by rfl, ?hyr49⟩) hHeld ?restr49
                case hyr49 => (intro W hSw; (try dsimp only at hSw); (try obtain ⟨hSw1, hSw2⟩ := hSw); (try obtain ⟨hSw2, hSw3⟩ := hSw2); go_simp; first | done | with_reducible rfl)
                simp only [Act.put, List.setIfInBounds_toArray, List.set_cons_zero, List.set_cons_succ]
                refine wpAnyH_ready (rs := [10]) (by kernel_rfl) (by simp) ?_
                refine AllReadyH.cons (o := ⟨some 83, _, _, _, _, _⟩) rfl (fun KK hK => ?_) AllReadyH.nil
                go_simp
                refine CB.out.mono ?_; rintro e w6 ⟨rfl, rfl⟩
                go_wp2_with fail
                refine hK.out _ _ (⟨c0, c1, c2⟩) (fun hHeld2 => ?_)
                clear hK KK
                try simp only [Act.put, List.setIfInBounds_toArray, List.set_cons_zero, List.set_cons_succ]
                refine wpAnyH_take (i := 11) (oi := ⟨some 72, _, _, _, _, _⟩) (v := ?vr411) rfl (by kernel_rfl) (by kernel_rfl) (by kernel_rfl) (fun _ _ _ h => h) (Or.inl ⟨by rfl, ?hyr411⟩) hHeld2 ?restr411
                case hyr411 => (intro W hSw; (try dsimp only at hSw); (try obtain ⟨hSw1, hSw2⟩ := hSw); (try obtain ⟨hSw2, hSw3⟩ := hSw2); go_simp; first | done | with_reducible rfl)
                simp only [Act.put, List.setIfInBounds_toArray, List.set_cons_zero, List.set_cons_succ]
                refine wpAnyH_take (i := 12) (oi := ⟨some 84, _, _, _, _, _⟩) (v := ?vr412) rfl (by kernel_rfl) (by kernel_rfl) (by kernel_rfl) (fun _ _ _ h => h) (Or.inl ⟨by rfl, ?hyr412⟩) hHeld2 ?restr412
                case hyr412 => (intro W hSw; (try dsimp only at hSw); (try obtain ⟨hSw1, hSw2⟩ := hSw); (try obtain ⟨hSw2, hSw3⟩ := hSw2); go_simp; first | done | with_reducible rfl)
                simp only [Act.put, List.setIfInBounds_toArray, List.set_cons_zero, List.set_cons_succ]
                refine wpAnyH_take (i := 13) (oi := ⟨some 85, _, _, _, _, _⟩) (v := ?vr413) rfl (by kernel_rfl) (by kernel_rfl) (by kernel_rfl) (fun _ _ _ h => h) (Or.inl ⟨by rfl, ?hyr413⟩) hHeld2 ?restr413
                case hyr413 => (intro W hSw; (try dsimp only at hSw); (try obtain ⟨hSw1, hSw2⟩ := hSw); (try obtain ⟨hSw2, hSw3⟩ := hSw2); go_simp; first | done | with_reducible rfl)
                simp only [Act.put, List.setIfInBounds_toArray, List.set_cons_zero, List.set_cons_succ]
                refine wpAnyH_take (i := 14) (oi := ⟨some 9, _, _, _, _, _⟩) (v := ?vr414) rfl (by kernel_rfl) (by kernel_rfl) (by kernel_rfl) (fun _ _ _ h => h) (Or.inl ⟨by rfl, ?hyr414⟩) hHeld2 ?restr414
                case hyr414 => (intro W hSw; (try dsimp only at hSw); (try obtain ⟨hSw1, hSw2⟩ := hSw); (try obtain ⟨hSw2, hSw3⟩ := hSw2); go_simp; first | done | with_reducible rfl)
                simp only [Act.put, List.setIfInBounds_toArray, List.set_cons_zero, List.set_cons_succ]
                refine wpAnyH_take (i := 15) (oi := ⟨some 10, _, _, _, _, _⟩) (v := ?vr415) rfl (by kernel_rfl) (by kernel_rfl) (by kernel_rfl) (fun _ _ _ h => h) (Or.inl ⟨by rfl, ?hyr415⟩) hHeld2 ?restr415
                case hyr415 => (intro W hSw; (try dsimp only at hSw); (try obtain ⟨hSw1, hSw2⟩ := hSw); (try obtain ⟨hSw2, hSw3⟩ := hSw2); go_simp; first | done | with_reducible rfl)
                simp only [Act.put, List.setIfInBounds_toArray, List.set_cons_zero, List.set_cons_succ]
                refine wpAnyH_done (by kernel_rfl) ?_ _
                have HP6 := Lib.hid (show PS w w5.drew s xb pa pp n ca cp l l from HP.out.below ⟨rfl, rfl, rfl, Nat.le_refl _, fun _ _ => rfl⟩)
                clear c0 c1 c2 hHeld hHeld2 CB HP hq
                generalize w5.drew = w7 at HP6 ⊢
                go_wp2_with fail
                refine (E1.out w7 HP6.out.bel).mono ?_; rintro e w8 ⟨rfl, hb8⟩
                have HP8 := Lib.hid (HP6.out.below hb8)
                clear hb8 HP6 E1
                have EI := Lib.hid (fun W => ints_any none none 0 0 0 0 [] [] W rfl rfl (Ints.nil W) (Ints.nil W) true rfl)
                go_wp2_with fail
                refine (EI.out w8).mono ?_; rintro e w9 ⟨rfl, hb9⟩
                have HP := Lib.hid (HP8.out.below hb9)
                clear hb9 HP8 EI
                go_wp2_with fail
                go_loopw [16] (fun av wr => ∃ j : Nat, j ≤ 13 ∧ av = .int .i64 ((j : Int) - 1) ∧ Hid (PS w wr s xb (pa) (pp) (n) (ca) (cp) (l) (l))) (fun i _ => (12 - intOf i).toNat)
                case atStart => exact ⟨0, by omega, rfl, HP⟩
                case round =>
                  obtain ⟨j, hj, rfl, HQ⟩ := hrel
                  clear HP
                  obtain ⟨z, hz⟩ : ∃ z, (j : Int) - 1 = z := ⟨_, rfl⟩
                  rw [hz]
                  by_cases hj13 : j < 13
                  · have u5 : decide (z < 12) = true := decide_eq_true (by omega)
                    have wr1 : IntKind.i64.wrap (z + 1) = z + 1 := by rw [IntKind.wrap_i64]; omega
                    have HZ := Lib.hid (show ((j + 1 : Nat) : Int) - 1 = z + 1 by omega)
                    have HZ2 := Lib.hid (show z = (j : Int) - 1 by omega)
                    have HJ := Lib.hid hj13
                    have d0 := HQ.out.x.cell 0 _ rfl
                    have d1 := HQ.out.x.cell 1 _ rfl
                    have CF := Lib.hid (fun W (hW : PS w W s xb (pa) (pp) (n) (ca) (cp) (l) (l)) => rfind_any (pa) (pp) (n) (n) (ca) (cp) (l) z W hW.len hW.a)
                    have CP2 := Lib.hid (fun W (hW : PS w W s xb (pa) (pp) (n) (ca) (cp) (l) (l)) => port_any _ s (l) z W hW.sw)
                    clear hz hj13
                    rcases idx_cases (l) z with ⟨g1, g2⟩ | ⟨k2, x, g1, g2, g3⟩
                    · rw [g1] at CF
                      rw [g2] at CP2
                      clear g1 g2
                      go_wp2_with fail
                      refine (CF.out wr HQ.out).mono ?_; rintro e w20 ⟨rfl, hb20⟩
                      have HQ2 := Lib.hid (HQ.out.below hb20)
                      clear hb20 CF HQ
                      go_wp2_with fail
                      refine (CP2.out w20 HQ2.out).mono ?_; rintro e w21 ⟨rfl, hb21⟩
                      have HQ3 := Lib.hid (HQ2.out.below hb21)
                      clear hb21 CP2 HQ2
                      go_wp2_with fail
                      go_roundw
                      case rel => exact ⟨j + 1, by have := HJ.out; omega, by rw [HZ.out], HQ3⟩
                      case measure => have := HJ.out; have := HZ2.out; simp [intOf]; omega
                    · rw [g1] at CF
                      rw [g3] at CP2
                      have u6 : decide ((k2 : Int) ≥ 0) = true := decide_eq_true (by omega)
                      have hk2 := lt_of_at g2
                      have hlen := HQ.out.len
                      rw [← hlen] at hk2
                      have hk2z : (k2 : Int) < ((n : Nat) : Int) := by omega
                      obtain ⟨b3, o3, e3, hcc⟩ := Drr.ints_both HQ.out.p (by rw [List.length_map]; omega)
                      have HCC := Lib.hid (fun W hW => (hcc W hW k2 (by rw [List.length_map]; omega)).trans (by rw [snd_at g2]))
                      obtain ⟨x1, x2⟩ := x
                      simp only at HCC CP2
                      subst e3
                      clear g1 g2 g3 hcc hlen
                      go_wp2_with fail
                      refine (CF.out wr HQ.out).mono ?_; rintro e w20 ⟨rfl, hb20⟩
                      have HQ2 := Lib.hid (HQ.out.below hb20)
                      have HB20 := Lib.hid hb20
                      clear hb20
                      have d0 := HQ2.out.x.cell 0 _ rfl
                      have d1 := HQ2.out.x.cell 1 _ rfl
                      have d2 := HCC.out w20 HB20.out
                      go_wp2_with fail
                      refine wp_region_held_drew (S := (fun W' => W'.cell? ⟨xb, 0, none⟩ = some (.slice pa (n) (ca)) ∧ W'.cell? ⟨xb, 1, none⟩ = some (.slice (some ⟨b3, o3, none⟩) (n) (cp)) ∧ W'.cell? ⟨b3, o3 + k2, none⟩ = some (.int .i64 x2))) (by kernel_rfl) (⟨d0, d1, d2⟩) (fun hHeld => ?_)
                      refine wpAnyH_take (i := 0) (oi := ⟨some 141, _, _, _, _, _⟩) (v := ?vr50) rfl (by kernel_rfl) (by kernel_rfl) (by kernel_rfl) (fun _ _ _ h => h) (Or.inl ⟨by rfl, ?hyr50⟩) hHeld ?restr50
                      case hyr50 => (intro W hSw; (try dsimp only at hSw); (try obtain ⟨hSw1, hSw2⟩ := hSw); (try obtain ⟨hSw2, hSw3⟩ := hSw2); go_simp; first | done | with_reducible rfl)
                      simp only [Act.put, List.setIfInBounds_toArray, List.set_cons_zero, List.set_cons_succ]
                      refine wpAnyH_take (i := 1) (oi := ⟨some 142, _, _, _, _, _⟩) (v := ?vr51) rfl (by kernel_rfl) (by kernel_rfl) (by kernel_rfl) (fun _ _ _ h => h) (Or.inl ⟨by rfl, ?hyr51⟩) hHeld ?restr51
                      case hyr51 => (intro W hSw; (try dsimp only at hSw); (try obtain ⟨hSw1, hSw2⟩ := hSw); (try obtain ⟨hSw2, hSw3⟩ := hSw2); go_simp; first | done | with_reducible rfl)
                      simp only [Act.put, List.setIfInBounds_toArray, List.set_cons_zero, List.set_cons_succ]
                      refine wpAnyH_take (i := 2) (oi := ⟨some 143, _, _, _, _, _⟩) (v := ?vr52) rfl (by kernel_rfl) (by kernel_rfl) (by kernel_rfl) (fun _ _ _ h => h) (Or.inl ⟨by rfl, ?hyr52⟩) hHeld ?restr52
                      case hyr52 => (intro W hSw; (try dsimp only at hSw); (try obtain ⟨hSw1, hSw2⟩ := hSw); (try obtain ⟨hSw2, hSw3⟩ := hSw2); go_simp; first | done | with_reducible rfl)
                      simp only [Act.put, List.setIfInBounds_toArray, List.set_cons_zero, List.set_cons_succ]
                      refine wpAnyH_take (i := 3) (oi := ⟨some 144, _, _, _, _, _⟩) (v := ?vr53) rfl (by kernel_rfl) (by kernel_rfl) (by kernel_rfl) (fun _ _ _ h => h) (Or.inl ⟨by rfl, ?hyr53⟩) hHeld ?restr53
                      case hyr53 => (intro W hSw; (try dsimp only at hSw); (try obtain ⟨hSw1, hSw2⟩ := hSw); (try obtain ⟨hSw2, hSw3⟩ := hSw2); go_simp; first | done | with_reducible rfl)
                      simp only [Act.put, List.setIfInBounds_toArray, List.set_cons_zero, List.set_cons_succ]
                      refine wpAnyH_ready (rs := [4]) (by kernel_rfl) (by simp) ?_
                      refine AllReadyH.cons (o := ⟨some 145, _, _, _, _, _⟩) rfl (fun KK hK => ?_) AllReadyH.nil
                      go_simp
                      refine (CF.out w20.drew (HQ2.out.below ⟨rfl, rfl, rfl, Nat.le_refl _, fun _ _ => rfl⟩)).mono ?_; rintro e w22 ⟨rfl, hb22⟩
                      have hb23 : Below w20.heap.size w20 w22 := ⟨hb22.os, hb22.tape, hb22.output, hb22.size, hb22.block⟩
                      have HQ4 := Lib.hid (HQ2.out.below hb23)
                      have d3 := HQ4.out.x.cell 0 _ rfl
                      have d4 := HQ4.out.x.cell 1 _ rfl
                      have d5 := HCC.out w22 (bcall HB20.out hb23)
                      clear hb22 hb23
                      go_wp2_with fail
                      refine hK.out _ _ (⟨d3, d4, d5⟩) (fun hHeld2 => ?_)
                      clear hK KK
                      try simp only [Act.put, List.setIfInBounds_toArray, List.set_cons_zero, List.set_cons_succ]
                      refine wpAnyH_take (i := 5) (oi := ⟨some 146, _, _, _, _, _⟩) (v := ?vr55) rfl (by kernel_rfl) (by kernel_rfl) (by kernel_rfl) (fun _ _ _ h => h) (Or.inl ⟨by rfl, ?hyr55⟩) hHeld2 ?restr55
                      case hyr55 => (intro W hSw; (try dsimp only at hSw); (try obtain ⟨hSw1, hSw2⟩ := hSw); (try obtain ⟨hSw2, hSw3⟩ := hSw2); go_simp; first | done | with_reducible rfl)
                      simp only [Act.put, List.setIfInBounds_toArray, List.set_cons_zero, List.set_cons_succ]
                      refine wpAnyH_take (i := 6) (oi := ⟨some 147, _, _, _, _, _⟩) (v := ?vr56) rfl (by kernel_rfl) (by kernel_rfl) (by kernel_rfl) (fun _ _ _ h => h) (Or.inl ⟨by rfl, ?hyr56⟩) hHeld2 ?restr56
                      case hyr56 => (intro W hSw; (try dsimp only at hSw); (try obtain ⟨hSw1, hSw2⟩ := hSw); (try obtain ⟨hSw2, hSw3⟩ := hSw2); go_simp; first | done | with_reducible rfl)
                      simp only [Act.put, List.setIfInBounds_toArray, List.set_cons_zero, List.set_cons_succ]
                      refine wpAnyH_take (i := 7) (oi := ⟨some 17, _, _, _, _, _⟩) (v := ?vr57) rfl (by kernel_rfl) (by kernel_rfl) (by kernel_rfl) (fun _ _ _ h => h) (Or.inl ⟨by rfl, ?hyr57⟩) hHeld2 ?restr57
                      case hyr57 => (intro W hSw; (try dsimp only at hSw); (try obtain ⟨hSw1, hSw2⟩ := hSw); (try obtain ⟨hSw2, hSw3⟩ := hSw2); go_simp; first | done | with_reducible rfl)
                      simp only [Act.put, List.setIfInBounds_toArray, List.set_cons_zero, List.set_cons_succ]
                      refine wpAnyH_done (by kernel_rfl) ?_ _
                      clear hHeld hHeld2 d0 d1 d2 d3 d4 d5 HQ HQ2 CF
                      go_wp2_with fail
                      refine (CP2.out w22 HQ4.out).mono ?_; rintro e w21 ⟨rfl, hb21⟩
                      have HQ3 := Lib.hid (HQ4.out.below hb21)
                      clear hb21 CP2 HQ4
                      go_wp2_with fail
                      go_roundw
                      case rel => exact ⟨j + 1, by have := HJ.out; omega, by rw [HZ.out], HQ3⟩
                      case measure => have := HJ.out; have := HZ2.out; simp [intOf]; omega
                  · have hj2 : j = 13 := by omega
                    have hz12 : z = 12 := by omega
                    subst hz12
                    subst hj2
                    clear hz hj13
                    go_wp2_with fail
                    go_roundw
                    case rel => exact ⟨k + 1, pa, pp, n, ca, cp, l, by omega, by omega, by first | rfl | go_num, HQ⟩
                    case measure => simp [intOf]; omega
              · have I1 := Lib.hid (fun W => Drr.in_any x1 0 65535 W false (in_false hB))
                clear hA hB hF
                go_wp2_with fail
                refine (I0.out _).mono ?_; rintro e w3 ⟨rfl, rfl⟩
                go_wp2_with fail
                refine (I1.out _).mono ?_; rintro e w4 ⟨rfl, rfl⟩
                clear I0 I1
                go_wp2_with fail
                refine wp_region_held_drew (S := (fun W' => W'.cell? ⟨b2, o2, none⟩ = some (.int .i64 x0) ∧ W'.cell? ⟨b2, o2 + 1, none⟩ = some (.int .i64 x1) ∧ W'.cell? ⟨b2, o2 + 2, none⟩ = some (.int .i64 x2))) (by kernel_rfl) (⟨c0, c1, c2⟩) (fun hHeld => ?_)
                refine wpAnyH_take (i := 0) (oi := ⟨some 73, _, _, _, _, _⟩) (v := ?vr60) rfl (by kernel_rfl) (by kernel_rfl) (by kernel_rfl) (fun _ _ _ h => h) (Or.inl ⟨by rfl, ?hyr60⟩) hHeld ?restr60
                case hyr60 => (intro W hSw; (try dsimp only at hSw); (try obtain ⟨hSw1, hSw2⟩ := hSw); (try obtain ⟨hSw2, hSw3⟩ := hSw2); go_simp; first | done | with_reducible rfl)
                simp only [Act.put, List.setIfInBounds_toArray, List.set_cons_zero, List.set_cons_succ]
                refine wpAnyH_take (i := 1) (oi := ⟨some 74, _, _, _, _, _⟩) (v := ?vr61) rfl (by kernel_rfl) (by kernel_rfl) (by kernel_rfl) (fun _ _ _ h => h) (Or.inl ⟨by rfl, ?hyr61⟩) hHeld ?restr61
                case hyr61 => (intro W hSw; (try dsimp only at hSw); (try obtain ⟨hSw1, hSw2⟩ := hSw); (try obtain ⟨hSw2, hSw3⟩ := hSw2); go_simp; first | done | with_reducible rfl)
                simp only [Act.put, List.setIfInBounds_toArray, List.set_cons_zero, List.set_cons_succ]
                refine wpAnyH_take (i := 2) (oi := ⟨some 75, _, _, _, _, _⟩) (v := ?vr62) rfl (by kernel_rfl) (by kernel_rfl) (by kernel_rfl) (fun _ _ _ h => h) (Or.inl ⟨by rfl, ?hyr62⟩) hHeld ?restr62
                case hyr62 => (intro W hSw; (try dsimp only at hSw); (try obtain ⟨hSw1, hSw2⟩ := hSw); (try obtain ⟨hSw2, hSw3⟩ := hSw2); go_simp; first | done | with_reducible rfl)
                simp only [Act.put, List.setIfInBounds_toArray, List.set_cons_zero, List.set_cons_succ]
                refine wpAnyH_take (i := 3) (oi := ⟨some 76, _, _, _, _, _⟩) (v := ?vr63) rfl (by kernel_rfl) (by kernel_rfl) (by kernel_rfl) (fun _ _ _ h => h) (Or.inl ⟨by rfl, ?hyr63⟩) hHeld ?restr63
                case hyr63 => (intro W hSw; (try dsimp only at hSw); (try obtain ⟨hSw1, hSw2⟩ := hSw); (try obtain ⟨hSw2, hSw3⟩ := hSw2); go_simp; first | done | with_reducible rfl)
                simp only [Act.put, List.setIfInBounds_toArray, List.set_cons_zero, List.set_cons_succ]
                refine wpAnyH_take (i := 4) (oi := ⟨some 77, _, _, _, _, _⟩) (v := ?vr64) rfl (by kernel_rfl) (by kernel_rfl) (by kernel_rfl) (fun _ _ _ h => h) (Or.inl ⟨by rfl, ?hyr64⟩) hHeld ?restr64
                case hyr64 => (intro W hSw; (try dsimp only at hSw); (try obtain ⟨hSw1, hSw2⟩ := hSw); (try obtain ⟨hSw2, hSw3⟩ := hSw2); go_simp; first | done | with_reducible rfl)
                simp only [Act.put, List.setIfInBounds_toArray, List.set_cons_zero, List.set_cons_succ]
                refine wpAnyH_take (i := 5) (oi := ⟨some 78, _, _, _, _, _⟩) (v := ?vr65) rfl (by kernel_rfl) (by kernel_rfl) (by kernel_rfl) (fun _ _ _ h => h) (Or.inl ⟨by rfl, ?hyr65⟩) hHeld ?restr65
                case hyr65 => (intro W hSw; (try dsimp only at hSw); (try obtain ⟨hSw1, hSw2⟩ := hSw); (try obtain ⟨hSw2, hSw3⟩ := hSw2); go_simp; first | done | with_reducible rfl)
                simp only [Act.put, List.setIfInBounds_toArray, List.set_cons_zero, List.set_cons_succ]
                refine wpAnyH_take (i := 6) (oi := ⟨some 79, _, _, _, _, _⟩) (v := ?vr66) rfl (by kernel_rfl) (by kernel_rfl) (by kernel_rfl) (fun _ _ _ h => h) (Or.inl ⟨by rfl, ?hyr66⟩) hHeld ?restr66
                case hyr66 => (intro W hSw; (try dsimp only at hSw); (try obtain ⟨hSw1, hSw2⟩ := hSw); (try obtain ⟨hSw2, hSw3⟩ := hSw2); go_simp; first | done | with_reducible rfl)
                simp only [Act.put, List.setIfInBounds_toArray, List.set_cons_zero, List.set_cons_succ]
                refine wpAnyH_take (i := 7) (oi := ⟨some 80, _, _, _, _, _⟩) (v := ?vr67) rfl (by kernel_rfl) (by kernel_rfl) (by kernel_rfl) (fun _ _ _ h => h) (Or.inl ⟨by rfl, ?hyr67⟩) hHeld ?restr67
                case hyr67 => (intro W hSw; (try dsimp only at hSw); (try obtain ⟨hSw1, hSw2⟩ := hSw); (try obtain ⟨hSw2, hSw3⟩ := hSw2); go_simp; first | done | with_reducible rfl)
                simp only [Act.put, List.setIfInBounds_toArray, List.set_cons_zero, List.set_cons_succ]
                refine wpAnyH_take (i := 8) (oi := ⟨some 81, _, _, _, _, _⟩) (v := ?vr68) rfl (by kernel_rfl) (by kernel_rfl) (by kernel_rfl) (fun _ _ _ h => h) (Or.inl ⟨by rfl, ?hyr68⟩) hHeld ?restr68
                case hyr68 => (intro W hSw; (try dsimp only at hSw); (try obtain ⟨hSw1, hSw2⟩ := hSw); (try obtain ⟨hSw2, hSw3⟩ := hSw2); go_simp; first | done | with_reducible rfl)
                simp only [Act.put, List.setIfInBounds_toArray, List.set_cons_zero, List.set_cons_succ]
                refine wpAnyH_take (i := 9) (oi := ⟨some 82, _, _, _, _, _⟩) (v := ?vr69) rfl (by kernel_rfl) (by kernel_rfl) (by kernel_rfl) (fun _ _ _ h => h) (Or.inl ⟨by rfl, ?hyr69⟩) hHeld ?restr69
                case hyr69 => (intro W hSw; (try dsimp only at hSw); (try obtain ⟨hSw1, hSw2⟩ := hSw); (try obtain ⟨hSw2, hSw3⟩ := hSw2); go_simp; first | done | with_reducible rfl)
                simp only [Act.put, List.setIfInBounds_toArray, List.set_cons_zero, List.set_cons_succ]
                refine wpAnyH_ready (rs := [10]) (by kernel_rfl) (by simp) ?_
                refine AllReadyH.cons (o := ⟨some 83, _, _, _, _, _⟩) rfl (fun KK hK => ?_) AllReadyH.nil
                go_simp
                refine CB.out.mono ?_; rintro e w6 ⟨rfl, rfl⟩
                go_wp2_with fail
                refine hK.out _ _ (⟨c0, c1, c2⟩) (fun hHeld2 => ?_)
                clear hK KK
                try simp only [Act.put, List.setIfInBounds_toArray, List.set_cons_zero, List.set_cons_succ]
                refine wpAnyH_take (i := 11) (oi := ⟨some 72, _, _, _, _, _⟩) (v := ?vr611) rfl (by kernel_rfl) (by kernel_rfl) (by kernel_rfl) (fun _ _ _ h => h) (Or.inl ⟨by rfl, ?hyr611⟩) hHeld2 ?restr611
                case hyr611 => (intro W hSw; (try dsimp only at hSw); (try obtain ⟨hSw1, hSw2⟩ := hSw); (try obtain ⟨hSw2, hSw3⟩ := hSw2); go_simp; first | done | with_reducible rfl)
                simp only [Act.put, List.setIfInBounds_toArray, List.set_cons_zero, List.set_cons_succ]
                refine wpAnyH_take (i := 12) (oi := ⟨some 84, _, _, _, _, _⟩) (v := ?vr612) rfl (by kernel_rfl) (by kernel_rfl) (by kernel_rfl) (fun _ _ _ h => h) (Or.inl ⟨by rfl, ?hyr612⟩) hHeld2 ?restr612
                case hyr612 => (intro W hSw; (try dsimp only at hSw); (try obtain ⟨hSw1, hSw2⟩ := hSw); (try obtain ⟨hSw2, hSw3⟩ := hSw2); go_simp; first | done | with_reducible rfl)
                simp only [Act.put, List.setIfInBounds_toArray, List.set_cons_zero, List.set_cons_succ]
                refine wpAnyH_take (i := 13) (oi := ⟨some 85, _, _, _, _, _⟩) (v := ?vr613) rfl (by kernel_rfl) (by kernel_rfl) (by kernel_rfl) (fun _ _ _ h => h) (Or.inl ⟨by rfl, ?hyr613⟩) hHeld2 ?restr613
                case hyr613 => (intro W hSw; (try dsimp only at hSw); (try obtain ⟨hSw1, hSw2⟩ := hSw); (try obtain ⟨hSw2, hSw3⟩ := hSw2); go_simp; first | done | with_reducible rfl)
                simp only [Act.put, List.setIfInBounds_toArray, List.set_cons_zero, List.set_cons_succ]
                refine wpAnyH_take (i := 14) (oi := ⟨some 9, _, _, _, _, _⟩) (v := ?vr614) rfl (by kernel_rfl) (by kernel_rfl) (by kernel_rfl) (fun _ _ _ h => h) (Or.inl ⟨by rfl, ?hyr614⟩) hHeld2 ?restr614
                case hyr614 => (intro W hSw; (try dsimp only at hSw); (try obtain ⟨hSw1, hSw2⟩ := hSw); (try obtain ⟨hSw2, hSw3⟩ := hSw2); go_simp; first | done | with_reducible rfl)
                simp only [Act.put, List.setIfInBounds_toArray, List.set_cons_zero, List.set_cons_succ]
                refine wpAnyH_take (i := 15) (oi := ⟨some 10, _, _, _, _, _⟩) (v := ?vr615) rfl (by kernel_rfl) (by kernel_rfl) (by kernel_rfl) (fun _ _ _ h => h) (Or.inl ⟨by rfl, ?hyr615⟩) hHeld2 ?restr615
                case hyr615 => (intro W hSw; (try dsimp only at hSw); (try obtain ⟨hSw1, hSw2⟩ := hSw); (try obtain ⟨hSw2, hSw3⟩ := hSw2); go_simp; first | done | with_reducible rfl)
                simp only [Act.put, List.setIfInBounds_toArray, List.set_cons_zero, List.set_cons_succ]
                refine wpAnyH_done (by kernel_rfl) ?_ _
                have HP6 := Lib.hid (show PS w w4.drew s xb pa pp n ca cp l l from HP.out.below ⟨rfl, rfl, rfl, Nat.le_refl _, fun _ _ => rfl⟩)
                clear c0 c1 c2 hHeld hHeld2 CB HP hq
                generalize w4.drew = w7 at HP6 ⊢
                go_wp2_with fail
                refine (E1.out w7 HP6.out.bel).mono ?_; rintro e w8 ⟨rfl, hb8⟩
                have HP8 := Lib.hid (HP6.out.below hb8)
                clear hb8 HP6 E1
                have EI := Lib.hid (fun W => ints_any none none 0 0 0 0 [] [] W rfl rfl (Ints.nil W) (Ints.nil W) true rfl)
                go_wp2_with fail
                refine (EI.out w8).mono ?_; rintro e w9 ⟨rfl, hb9⟩
                have HP := Lib.hid (HP8.out.below hb9)
                clear hb9 HP8 EI
                go_wp2_with fail
                go_loopw [16] (fun av wr => ∃ j : Nat, j ≤ 13 ∧ av = .int .i64 ((j : Int) - 1) ∧ Hid (PS w wr s xb (pa) (pp) (n) (ca) (cp) (l) (l))) (fun i _ => (12 - intOf i).toNat)
                case atStart => exact ⟨0, by omega, rfl, HP⟩
                case round =>
                  obtain ⟨j, hj, rfl, HQ⟩ := hrel
                  clear HP
                  obtain ⟨z, hz⟩ : ∃ z, (j : Int) - 1 = z := ⟨_, rfl⟩
                  rw [hz]
                  by_cases hj13 : j < 13
                  · have u5 : decide (z < 12) = true := decide_eq_true (by omega)
                    have wr1 : IntKind.i64.wrap (z + 1) = z + 1 := by rw [IntKind.wrap_i64]; omega
                    have HZ := Lib.hid (show ((j + 1 : Nat) : Int) - 1 = z + 1 by omega)
                    have HZ2 := Lib.hid (show z = (j : Int) - 1 by omega)
                    have HJ := Lib.hid hj13
                    have d0 := HQ.out.x.cell 0 _ rfl
                    have d1 := HQ.out.x.cell 1 _ rfl
                    have CF := Lib.hid (fun W (hW : PS w W s xb (pa) (pp) (n) (ca) (cp) (l) (l)) => rfind_any (pa) (pp) (n) (n) (ca) (cp) (l) z W hW.len hW.a)
                    have CP2 := Lib.hid (fun W (hW : PS w W s xb (pa) (pp) (n) (ca) (cp) (l) (l)) => port_any _ s (l) z W hW.sw)
                    clear hz hj13
                    rcases idx_cases (l) z with ⟨g1, g2⟩ | ⟨k2, x, g1, g2, g3⟩
                    · rw [g1] at CF
                      rw [g2] at CP2
                      clear g1 g2
                      go_wp2_with fail
                      refine (CF.out wr HQ.out).mono ?_; rintro e w20 ⟨rfl, hb20⟩
                      have HQ2 := Lib.hid (HQ.out.below hb20)
                      clear hb20 CF HQ
                      go_wp2_with fail
                      refine (CP2.out w20 HQ2.out).mono ?_; rintro e w21 ⟨rfl, hb21⟩
                      have HQ3 := Lib.hid (HQ2.out.below hb21)
                      clear hb21 CP2 HQ2
                      go_wp2_with fail
                      go_roundw
                      case rel => exact ⟨j + 1, by have := HJ.out; omega, by rw [HZ.out], HQ3⟩
                      case measure => have := HJ.out; have := HZ2.out; simp [intOf]; omega
                    · rw [g1] at CF
                      rw [g3] at CP2
                      have u6 : decide ((k2 : Int) ≥ 0) = true := decide_eq_true (by omega)
                      have hk2 := lt_of_at g2
                      have hlen := HQ.out.len
                      rw [← hlen] at hk2
                      have hk2z : (k2 : Int) < ((n : Nat) : Int) := by omega
                      obtain ⟨b3, o3, e3, hcc⟩ := Drr.ints_both HQ.out.p (by rw [List.length_map]; omega)
                      have HCC := Lib.hid (fun W hW => (hcc W hW k2 (by rw [List.length_map]; omega)).trans (by rw [snd_at g2]))
                      obtain ⟨x1, x2⟩ := x
                      simp only at HCC CP2
                      subst e3
                      clear g1 g2 g3 hcc hlen
                      go_wp2_with fail
                      refine (CF.out wr HQ.out).mono ?_; rintro e w20 ⟨rfl, hb20⟩
                      have HQ2 := Lib.hid (HQ.out.below hb20)
                      have HB20 := Lib.hid hb20
                      clear hb20
                      have d0 := HQ2.out.x.cell 0 _ rfl
                      have d1 := HQ2.out.x.cell 1 _ rfl
                      have d2 := HCC.out w20 HB20.out
                      go_wp2_with fail
                      refine wp_region_held_drew (S := (fun W' => W'.cell? ⟨xb, 0, none⟩ = some (.slice pa (n) (ca)) ∧ W'.cell? ⟨xb, 1, none⟩ = some (.slice (some ⟨b3, o3, none⟩) (n) (cp)) ∧ W'.cell? ⟨b3, o3 + k2, none⟩ = some (.int .i64 x2))) (by kernel_rfl) (⟨d0, d1, d2⟩) (fun hHeld => ?_)
                      refine wpAnyH_take (i := 0) (oi := ⟨some 141, _, _, _, _, _⟩) (v := ?vr70) rfl (by kernel_rfl) (by kernel_rfl) (by kernel_rfl) (fun _ _ _ h => h) (Or.inl ⟨by rfl, ?hyr70⟩) hHeld ?restr70
                      case hyr70 => (intro W hSw; (try dsimp only at hSw); (try obtain ⟨hSw1, hSw2⟩ := hSw); (try obtain ⟨hSw2, hSw3⟩ := hSw2); go_simp; first | done | with_reducible rfl)
                      simp only [Act.put, List.setIfInBounds_toArray, List.set_cons_zero, List.set_cons_succ]
                      refine wpAnyH_take (i := 1) (oi := ⟨some 142, _, _, _, _, _⟩) (v := ?vr71) rfl (by kernel_rfl) (by kernel_rfl) (by kernel_rfl) (fun _ _ _ h => h) (Or.inl ⟨by rfl, ?hyr71⟩) hHeld ?restr71
                      case hyr71 => (intro W hSw; (try dsimp only at hSw); (try obtain ⟨hSw1, hSw2⟩ := hSw); (try obtain ⟨hSw2, hSw3⟩ := hSw2); go_simp; first | done | with_reducible rfl)
                      simp only [Act.put, List.setIfInBounds_toArray, List.set_cons_zero, List.set_cons_succ]
                      refine wpAnyH_take (i := 2) (oi := ⟨some 143, _, _, _, _, _⟩) (v := ?vr72) rfl (by kernel_rfl) (by kernel_rfl) (by kernel_rfl) (fun _ _ _ h => h) (Or.inl ⟨by rfl, ?hyr72⟩) hHeld ?restr72
                      case hyr72 => (intro W hSw; (try dsimp only at hSw); (try obtain ⟨hSw1, hSw2⟩ := hSw); (try obtain ⟨hSw2, hSw3⟩ := hSw2); go_simp; first | done | with_reducible rfl)
                      simp only [Act.put, List.setIfInBounds_toArray, List.set_cons_zero, List.set_cons_succ]
                      refine wpAnyH_take (i := 3) (oi := ⟨some 144, _, _, _, _, _⟩) (v := ?vr73) rfl (by kernel_rfl) (by kernel_rfl) (by kernel_rfl) (fun _ _ _ h => h) (Or.inl ⟨by rfl, ?hyr73⟩) hHeld ?restr73
                      case hyr73 => (intro W hSw; (try dsimp only at hSw); (try obtain ⟨hSw1, hSw2⟩ := hSw); (try obtain ⟨hSw2, hSw3⟩ := hSw2); go_simp; first | done | with_reducible rfl)
                      simp only [Act.put, List.setIfInBounds_toArray, List.set_cons_zero, List.set_cons_succ]
                      refine wpAnyH_ready (rs := [4]) (by kernel_rfl) (by simp) ?_
                      refine AllReadyH.cons (o := ⟨some 145, _, _, _, _, _⟩) rfl (fun KK hK => ?_) AllReadyH.nil
                      go_simp
                      refine (CF.out w20.drew (HQ2.out.below ⟨rfl, rfl, rfl, Nat.le_refl _, fun _ _ => rfl⟩)).mono ?_; rintro e w22 ⟨rfl, hb22⟩
                      have hb23 : Below w20.heap.size w20 w22 := ⟨hb22.os, hb22.tape, hb22.output, hb22.size, hb22.block⟩
                      have HQ4 := Lib.hid (HQ2.out.below hb23)
                      have d3 := HQ4.out.x.cell 0 _ rfl
                      have d4 := HQ4.out.x.cell 1 _ rfl
                      have d5 := HCC.out w22 (bcall HB20.out hb23)
                      clear hb22 hb23
                      go_wp2_with fail
                      refine hK.out _ _ (⟨d3, d4, d5⟩) (fun hHeld2 => ?_)
                      clear hK KK
                      try simp only [Act.put, List.setIfInBounds_toArray, List.set_cons_zero, List.set_cons_succ]
                      refine wpAnyH_take (i := 5) (oi := ⟨some 146, _, _, _, _, _⟩) (v := ?vr75) rfl (by kernel_rfl) (by kernel_rfl) (by kernel_rfl) (fun _ _ _ h => h) (Or.inl ⟨by rfl, ?hyr75⟩) hHeld2 ?restr75
                      case hyr75 => (intro W hSw; (try dsimp only at hSw); (try obtain ⟨hSw1, hSw2⟩ := hSw); (try obtain ⟨hSw2, hSw3⟩ := hSw2); go_simp; first | done | with_reducible rfl)
                      simp only [Act.put, List.setIfInBounds_toArray, List.set_cons_zero, List.set_cons_succ]
                      refine wpAnyH_take (i := 6) (oi := ⟨some 147, _, _, _, _, _⟩) (v := ?vr76) rfl (by kernel_rfl) (by kernel_rfl) (by kernel_rfl) (fun _ _ _ h => h) (Or.inl ⟨by rfl, ?hyr76⟩) hHeld2 ?restr76
                      case hyr76 => (intro W hSw; (try dsimp only at hSw); (try obtain ⟨hSw1, hSw2⟩ := hSw); (try obtain ⟨hSw2, hSw3⟩ := hSw2); go_simp; first | done | with_reducible rfl)
                      simp only [Act.put, List.setIfInBounds_toArray, List.set_cons_zero, List.set_cons_succ]
                      refine wpAnyH_take (i := 7) (oi := ⟨some 17, _, _, _, _, _⟩) (v := ?vr77) rfl (by kernel_rfl) (by kernel_rfl) (by kernel_rfl) (fun _ _ _ h => h) (Or.inl ⟨by rfl, ?hyr77⟩) hHeld2 ?restr77
                      case hyr77 => (intro W hSw; (try dsimp only at hSw); (try obtain ⟨hSw1, hSw2⟩ := hSw); (try obtain ⟨hSw2, hSw3⟩ := hSw2); go_simp; first | done | with_reducible rfl)
                      simp only [Act.put, List.setIfInBounds_toArray, List.set_cons_zero, List.set_cons_succ]
                      refine wpAnyH_done (by kernel_rfl) ?_ _
                      clear hHeld hHeld2 d0 d1 d2 d3 d4 d5 HQ HQ2 CF
                      go_wp2_with fail
                      refine (CP2.out w22 HQ4.out).mono ?_; rintro e w21 ⟨rfl, hb21⟩
                      have HQ3 := Lib.hid (HQ4.out.below hb21)
                      clear hb21 CP2 HQ4
                      go_wp2_with fail
                      go_roundw
                      case rel => exact ⟨j + 1, by have := HJ.out; omega, by rw [HZ.out], HQ3⟩
                      case measure => have := HJ.out; have := HZ2.out; simp [intOf]; omega
                  · have hj2 : j = 13 := by omega
                    have hz12 : z = 12 := by omega
                    subst hz12
                    subst hj2
                    clear hz hj13
                    go_wp2_with fail
                    go_roundw
                    case rel => exact ⟨k + 1, pa, pp, n, ca, cp, l, by omega, by omega, by first | rfl | go_num, HQ⟩
                    case measure => simp [intOf]; omega
            · have I0 := Lib.hid (fun W => Drr.in_any x0 0 65535 W false (in_false hA))
              clear hA hF
              go_wp2_with fail
              refine (I0.out _).mono ?_; rintro e w3 ⟨rfl, rfl⟩
              clear I0
              go_wp2_with fail
              refine wp_region_held_drew (S := (fun W' => W'.cell? ⟨b2, o2, none⟩ = some (.int .i64 x0) ∧ W'.cell? ⟨b2, o2 + 1, none⟩ = some (.int .i64 x1) ∧ W'.cell? ⟨b2, o2 + 2, none⟩ = some (.int .i64 x2))) (by kernel_rfl) (⟨c0, c1, c2⟩) (fun hHeld => ?_)
              refine wpAnyH_take (i := 0) (oi := ⟨some 73, _, _, _, _, _⟩) (v := ?vr80) rfl (by kernel_rfl) (by kernel_rfl) (by kernel_rfl) (fun _ _ _ h => h) (Or.inl ⟨by rfl, ?hyr80⟩) hHeld ?restr80
              case hyr80 => (intro W hSw; (try dsimp only at hSw); (try obtain ⟨hSw1, hSw2⟩ := hSw); (try obtain ⟨hSw2, hSw3⟩ := hSw2); go_simp; first | done | with_reducible rfl)
              simp only [Act.put, List.setIfInBounds_toArray, List.set_cons_zero, List.set_cons_succ]
              refine wpAnyH_take (i := 1) (oi := ⟨some 74, _, _, _, _, _⟩) (v := ?vr81) rfl (by kernel_rfl) (by kernel_rfl) (by kernel_rfl) (fun _ _ _ h => h) (Or.inl ⟨by rfl, ?hyr81⟩) hHeld ?restr81
              case hyr81 => (intro W hSw; (try dsimp only at hSw); (try obtain ⟨hSw1, hSw2⟩ := hSw); (try obtain ⟨hSw2, hSw3⟩ := hSw2); go_simp; first | done | with_reducible rfl)
              simp only [Act.put, List.setIfInBounds_toArray, List.set_cons_zero, List.set_cons_succ]
              refine wpAnyH_take (i := 2) (oi := ⟨some 75, _, _, _, _, _⟩) (v := ?vr82) rfl (by kernel_rfl) (by kernel_rfl) (by kernel_rfl) (fun _ _ _ h => h) (Or.inl ⟨by rfl, ?hyr82⟩) hHeld ?restr82
              case hyr82 => (intro W hSw; (try dsimp only at hSw); (try obtain ⟨hSw1, hSw2⟩ := hSw); (try obtain ⟨hSw2, hSw3⟩ := hSw2); go_simp; first | done | with_reducible rfl)
              simp only [Act.put, List.setIfInBounds_toArray, List.set_cons_zero, List.set_cons_succ]
              refine wpAnyH_take (i := 3) (oi := ⟨some 76, _, _, _, _, _⟩) (v := ?vr83) rfl (by kernel_rfl) (by kernel_rfl) (by kernel_rfl) (fun _ _ _ h => h) (Or.inl ⟨by rfl, ?hyr83⟩) hHeld ?restr83
              case hyr83 => (intro W hSw; (try dsimp only at hSw); (try obtain ⟨hSw1, hSw2⟩ := hSw); (try obtain ⟨hSw2, hSw3⟩ := hSw2); go_simp; first | done | with_reducible rfl)
              simp only [Act.put, List.setIfInBounds_toArray, List.set_cons_zero, List.set_cons_succ]
              refine wpAnyH_take (i := 4) (oi := ⟨some 77, _, _, _, _, _⟩) (v := ?vr84) rfl (by kernel_rfl) (by kernel_rfl) (by kernel_rfl) (fun _ _ _ h => h) (Or.inl ⟨by rfl, ?hyr84⟩) hHeld ?restr84
              case hyr84 => (intro W hSw; (try dsimp only at hSw); (try obtain ⟨hSw1, hSw2⟩ := hSw); (try obtain ⟨hSw2, hSw3⟩ := hSw2); go_simp; first | done | with_reducible rfl)
              simp only [Act.put, List.setIfInBounds_toArray, List.set_cons_zero, List.set_cons_succ]
              refine wpAnyH_take (i := 5) (oi := ⟨some 78, _, _, _, _, _⟩) (v := ?vr85) rfl (by kernel_rfl) (by kernel_rfl) (by kernel_rfl) (fun _ _ _ h => h) (Or.inl ⟨by rfl, ?hyr85⟩) hHeld ?restr85
              case hyr85 => (intro W hSw; (try dsimp only at hSw); (try obtain ⟨hSw1, hSw2⟩ := hSw); (try obtain ⟨hSw2, hSw3⟩ := hSw2); go_simp; first | done | with_reducible rfl)
              simp only [Act.put, List.setIfInBounds_toArray, List.set_cons_zero, List.set_cons_succ]
              refine wpAnyH_take (i := 6) (oi := ⟨some 79, _, _, _, _, _⟩) (v := ?vr86) rfl (by kernel_rfl) (by kernel_rfl) (by kernel_rfl) (fun _ _ _ h => h) (Or.inl ⟨by rfl, ?hyr86⟩) hHeld ?restr86
              case hyr86 => (intro W hSw; (try dsimp only at hSw); (try obtain ⟨hSw1, hSw2⟩ := hSw); (try obtain ⟨hSw2, hSw3⟩ := hSw2); go_simp; first | done | with_reducible rfl)
              simp only [Act.put, List.setIfInBounds_toArray, List.set_cons_zero, List.set_cons_succ]
              refine wpAnyH_take (i := 7) (oi := ⟨some 80, _, _, _, _, _⟩) (v := ?vr87) rfl (by kernel_rfl) (by kernel_rfl) (by kernel_rfl) (fun _ _ _ h => h) (Or.inl ⟨by rfl, ?hyr87⟩) hHeld ?restr87
              case hyr87 => (intro W hSw; (try dsimp only at hSw); (try obtain ⟨hSw1, hSw2⟩ := hSw); (try obtain ⟨hSw2, hSw3⟩ := hSw2); go_simp; first | done | with_reducible rfl)
              simp only [Act.put, List.setIfInBounds_toArray, List.set_cons_zero, List.set_cons_succ]
              refine wpAnyH_take (i := 8) (oi := ⟨some 81, _, _, _, _, _⟩) (v := ?vr88) rfl (by kernel_rfl) (by kernel_rfl) (by kernel_rfl) (fun _ _ _ h => h) (Or.inl ⟨by rfl, ?hyr88⟩) hHeld ?restr88
              case hyr88 => (intro W hSw; (try dsimp only at hSw); (try obtain ⟨hSw1, hSw2⟩ := hSw); (try obtain ⟨hSw2, hSw3⟩ := hSw2); go_simp; first | done | with_reducible rfl)
              simp only [Act.put, List.setIfInBounds_toArray, List.set_cons_zero, List.set_cons_succ]
              refine wpAnyH_take (i := 9) (oi := ⟨some 82, _, _, _, _, _⟩) (v := ?vr89) rfl (by kernel_rfl) (by kernel_rfl) (by kernel_rfl) (fun _ _ _ h => h) (Or.inl ⟨by rfl, ?hyr89⟩) hHeld ?restr89
              case hyr89 => (intro W hSw; (try dsimp only at hSw); (try obtain ⟨hSw1, hSw2⟩ := hSw); (try obtain ⟨hSw2, hSw3⟩ := hSw2); go_simp; first | done | with_reducible rfl)
              simp only [Act.put, List.setIfInBounds_toArray, List.set_cons_zero, List.set_cons_succ]
              refine wpAnyH_ready (rs := [10]) (by kernel_rfl) (by simp) ?_
              refine AllReadyH.cons (o := ⟨some 83, _, _, _, _, _⟩) rfl (fun KK hK => ?_) AllReadyH.nil
              go_simp
              refine CB.out.mono ?_; rintro e w6 ⟨rfl, rfl⟩
              go_wp2_with fail
              refine hK.out _ _ (⟨c0, c1, c2⟩) (fun hHeld2 => ?_)
              clear hK KK
              try simp only [Act.put, List.setIfInBounds_toArray, List.set_cons_zero, List.set_cons_succ]
              refine wpAnyH_take (i := 11) (oi := ⟨some 72, _, _, _, _, _⟩) (v := ?vr811) rfl (by kernel_rfl) (by kernel_rfl) (by kernel_rfl) (fun _ _ _ h => h) (Or.inl ⟨by rfl, ?hyr811⟩) hHeld2 ?restr811
              case hyr811 => (intro W hSw; (try dsimp only at hSw); (try obtain ⟨hSw1, hSw2⟩ := hSw); (try obtain ⟨hSw2, hSw3⟩ := hSw2); go_simp; first | done | with_reducible rfl)
              simp only [Act.put, List.setIfInBounds_toArray, List.set_cons_zero, List.set_cons_succ]
              refine wpAnyH_take (i := 12) (oi := ⟨some 84, _, _, _, _, _⟩) (v := ?vr812) rfl (by kernel_rfl) (by kernel_rfl) (by kernel_rfl) (fun _ _ _ h => h) (Or.inl ⟨by rfl, ?hyr812⟩) hHeld2 ?restr812
              case hyr812 => (intro W hSw; (try dsimp only at hSw); (try obtain ⟨hSw1, hSw2⟩ := hSw); (try obtain ⟨hSw2, hSw3⟩ := hSw2); go_simp; first | done | with_reducible rfl)
              simp only [Act.put, List.setIfInBounds_toArray, List.set_cons_zero, List.set_cons_succ]
              refine wpAnyH_take (i := 13) (oi := ⟨some 85, _, _, _, _, _⟩) (v := ?vr813) rfl (by kernel_rfl) (by kernel_rfl) (by kernel_rfl) (fun _ _ _ h => h) (Or.inl ⟨by rfl, ?hyr813⟩) hHeld2 ?restr813
              case hyr813 => (intro W hSw; (try dsimp only at hSw); (try obtain ⟨hSw1, hSw2⟩ := hSw); (try obtain ⟨hSw2, hSw3⟩ := hSw2); go_simp; first | done | with_reducible rfl)
              simp only [Act.put, List.setIfInBounds_toArray, List.set_cons_zero, List.set_cons_succ]
              refine wpAnyH_take (i := 14) (oi := ⟨some 9, _, _, _, _, _⟩) (v := ?vr814) rfl (by kernel_rfl) (by kernel_rfl) (by kernel_rfl) (fun _ _ _ h => h) (Or.inl ⟨by rfl, ?hyr814⟩) hHeld2 ?restr814
              case hyr814 => (intro W hSw; (try dsimp only at hSw); (try obtain ⟨hSw1, hSw2⟩ := hSw); (try obtain ⟨hSw2, hSw3⟩ := hSw2); go_simp; first | done | with_reducible rfl)
              simp only [Act.put, List.setIfInBounds_toArray, List.set_cons_zero, List.set_cons_succ]
              refine wpAnyH_take (i := 15) (oi := ⟨some 10, _, _, _, _, _⟩) (v := ?vr815) rfl (by kernel_rfl) (by kernel_rfl) (by kernel_rfl) (fun _ _ _ h => h) (Or.inl ⟨by rfl, ?hyr815⟩) hHeld2 ?restr815
              case hyr815 => (intro W hSw; (try dsimp only at hSw); (try obtain ⟨hSw1, hSw2⟩ := hSw); (try obtain ⟨hSw2, hSw3⟩ := hSw2); go_simp; first | done | with_reducible rfl)
              simp only [Act.put, List.setIfInBounds_toArray, List.set_cons_zero, List.set_cons_succ]
              refine wpAnyH_done (by kernel_rfl) ?_ _
              have HP6 := Lib.hid (show PS w w3.drew s xb pa pp n ca cp l l from HP.out.below ⟨rfl, rfl, rfl, Nat.le_refl _, fun _ _ => rfl⟩)
              clear c0 c1 c2 hHeld hHeld2 CB HP hq
              generalize w3.drew = w7 at HP6 ⊢
              go_wp2_with fail
              refine (E1.out w7 HP6.out.bel).mono ?_; rintro e w8 ⟨rfl, hb8⟩
              have HP8 := Lib.hid (HP6.out.below hb8)
              clear hb8 HP6 E1
              have EI := Lib.hid (fun W => ints_any none none 0 0 0 0 [] [] W rfl rfl (Ints.nil W) (Ints.nil W) true rfl)
              go_wp2_with fail
              refine (EI.out w8).mono ?_; rintro e w9 ⟨rfl, hb9⟩
              have HP := Lib.hid (HP8.out.below hb9)
              clear hb9 HP8 EI
              go_wp2_with fail
              go_loopw [16] (fun av wr => ∃ j : Nat, j ≤ 13 ∧ av = .int .i64 ((j : Int) - 1) ∧ Hid (PS w wr s xb (pa) (pp) (n) (ca) (cp) (l) (l))) (fun i _ => (12 - intOf i).toNat)
              case atStart => exact ⟨0, by omega, rfl, HP⟩
              case round =>
                obtain ⟨j, hj, rfl, HQ⟩ := hrel
                clear HP
                obtain ⟨z, hz⟩ : ∃ z, (j : Int) - 1 = z := ⟨_, rfl⟩
                rw [hz]
                by_cases hj13 : j < 13
                · have u5 : decide (z < 12) = true := decide_eq_true (by omega)
                  have wr1 : IntKind.i64.wrap (z + 1) = z + 1 := by rw [IntKind.wrap_i64]; omega
                  have HZ := Lib.hid (show ((j + 1 : Nat) : Int) - 1 = z + 1 by omega)
                  have HZ2 := Lib.hid (show z = (j : Int) - 1 by omega)
                  have HJ := Lib.hid hj13
                  have d0 := HQ.out.x.cell 0 _ rfl
                  have d1 := HQ.out.x.cell 1 _ rfl
                  have CF := Lib.hid (fun W (hW : PS w W s xb (pa) (pp) (n) (ca) (cp) (l) (l)) => rfind_any (pa) (pp) (n) (n) (ca) (cp) (l) z W hW.len hW.a)
                  have CP2 := Lib.hid (fun W (hW : PS w W s xb (pa) (pp) (n) (ca) (cp) (l) (l)) => port_any _ s (l) z W hW.sw)
                  clear hz hj13
                  rcases idx_cases (l) z with ⟨g1, g2⟩ | ⟨k2, x, g1, g2, g3⟩
                  · rw [g1] at CF
                    rw [g2] at CP2
                    clear g1 g2
                    go_wp2_with fail
                    refine (CF.out wr HQ.out).mono ?_; rintro e w20 ⟨rfl, hb20⟩
                    have HQ2 := Lib.hid (HQ.out.below hb20)
                    clear hb20 CF HQ
                    go_wp2_with fail
                    refine (CP2.out w20 HQ2.out).mono ?_; rintro e w21 ⟨rfl, hb21⟩
                    have HQ3 := Lib.hid (HQ2.out.below hb21)
                    clear hb21 CP2 HQ2
                    go_wp2_with fail
                    go_roundw
                    case rel => exact ⟨j + 1, by have := HJ.out; omega, by rw [HZ.out], HQ3⟩
                    case measure => have := HJ.out; have := HZ2.out; simp [intOf]; omega
                  · rw [g1] at CF
                    rw [g3] at CP2
                    have u6 : decide ((k2 : Int) ≥ 0) = true := decide_eq_true (by omega)
                    have hk2 := lt_of_at g2
                    have hlen := HQ.out.len
                    rw [← hlen] at hk2
                    have hk2z : (k2 : Int) < ((n : Nat) : Int) := by omega
                    obtain ⟨b3, o3, e3, hcc⟩ := Drr.ints_both HQ.out.p (by rw [List.length_map]; omega)
                    have HCC := Lib.hid (fun W hW => (hcc W hW k2 (by rw [List.length_map]; omega)).trans (by rw [snd_at g2]))
                    obtain ⟨x1, x2⟩ := x
                    simp only at HCC CP2
                    subst e3
                    clear g1 g2 g3 hcc hlen
                    go_wp2_with fail
                    refine (CF.out wr HQ.out).mono ?_; rintro e w20 ⟨rfl, hb20⟩
                    have HQ2 := Lib.hid (HQ.out.below hb20)
                    have HB20 := Lib.hid hb20
                    clear hb20
                    have d0 := HQ2.out.x.cell 0 _ rfl
                    have d1 := HQ2.out.x.cell 1 _ rfl
                    have d2 := HCC.out w20 HB20.out
                    go_wp2_with fail
                    refine wp_region_held_drew (S := (fun W' => W'.cell? ⟨xb, 0, none⟩ = some (.slice pa (n) (ca)) ∧ W'.cell? ⟨xb, 1, none⟩ = some (.slice (some ⟨b3, o3, none⟩) (n) (cp)) ∧ W'.cell? ⟨b3, o3 + k2, none⟩ = some (.int .i64 x2))) (by kernel_rfl) (⟨d0, d1, d2⟩) (fun hHeld => ?_)
                    refine wpAnyH_take (i := 0) (oi := ⟨some 141, _, _, _, _, _⟩) (v := ?vr90) rfl (by kernel_rfl) (by kernel_rfl) (by kernel_rfl) (fun _ _ _ h => h) (Or.inl ⟨by rfl, ?hyr90⟩) hHeld ?restr90
                    case hyr90 => (intro W hSw; (try dsimp only at hSw); (try obtain ⟨hSw1, hSw2⟩ := hSw); (try obtain ⟨hSw2, hSw3⟩ := hSw2); go_simp; first | done | with_reducible rfl)
                    simp only [Act.put, List.setIfInBounds_toArray, List.set_cons_zero, List.set_cons_succ]
                    refine wpAnyH_take (i := 1) (oi := ⟨some 142, _, _, _, _, _⟩) (v := ?vr91) rfl (by kernel_rfl) (by kernel_rfl) (by kernel_rfl) (fun _ _ _ h => h) (Or.inl ⟨by rfl, ?hyr91⟩) hHeld ?restr91
                    case hyr91 => (intro W hSw; (try dsimp only at hSw); (try obtain ⟨hSw1, hSw2⟩ := hSw); (try obtain ⟨hSw2, hSw3⟩ := hSw2); go_simp; first | done | with_reducible rfl)
                    simp only [Act.put, List.setIfInBounds_toArray, List.set_cons_zero, List.set_cons_succ]
                    refine wpAnyH_take (i := 2) (oi := ⟨some 143, _, _, _, _, _⟩) (v := ?vr92) rfl (by kernel_rfl) (by kernel_rfl) (by kernel_rfl) (fun _ _ _ h => h) (Or.inl ⟨by rfl, ?hyr92⟩) hHeld ?restr92
                    case hyr92 => (intro W hSw; (try dsimp only at hSw); (try obtain ⟨hSw1, hSw2⟩ := hSw); (try obtain ⟨hSw2, hSw3⟩ := hSw2); go_simp; first | done | with_reducible rfl)
                    simp only [Act.put, List.setIfInBounds_toArray, List.set_cons_zero, List.set_cons_succ]
                    refine wpAnyH_take (i := 3) (oi := ⟨some 144, _, _, _, _, _⟩) (v := ?vr93) rfl (by kernel_rfl) (by kernel_rfl) (by kernel_rfl) (fun _ _ _ h => h) (Or.inl ⟨by rfl, ?hyr93⟩) hHeld ?restr93
                    case hyr93 => (intro W hSw; (try dsimp only at hSw); (try obtain ⟨hSw1, hSw2⟩ := hSw); (try obtain ⟨hSw2, hSw3⟩ := hSw2); go_simp; first | done | with_reducible rfl)
                    simp only [Act.put, List.setIfInBounds_toArray, List.set_cons_zero, List.set_cons_succ]
                    refine wpAnyH_ready (rs := [4]) (by kernel_rfl) (by simp) ?_
                    refine AllReadyH.cons (o := ⟨some 145, _, _, _, _, _⟩) rfl (fun KK hK => ?_) AllReadyH.nil
                    go_simp
                    refine (CF.out w20.drew (HQ2.out.below ⟨rfl, rfl, rfl, Nat.le_refl _, fun _ _ => rfl⟩)).mono ?_; rintro e w22 ⟨rfl, hb22⟩
                    have hb23 : Below w20.heap.size w20 w22 := ⟨hb22.os, hb22.tape, hb22.output, hb22.size, hb22.block⟩
                    have HQ4 := Lib.hid (HQ2.out.below hb23)
                    have d3 := HQ4.out.x.cell 0 _ rfl
                    have d4 := HQ4.out.x.cell 1 _ rfl
                    have d5 := HCC.out w22 (bcall HB20.out hb23)
                    clear hb22 hb23
                    go_wp2_with fail
                    refine hK.out _ _ (⟨d3, d4, d5⟩) (fun hHeld2 => ?_)
                    clear hK KK
                    try simp only [Act.put, List.setIfInBounds_toArray, List.set_cons_zero, List.set_cons_succ]
                    refine wpAnyH_take (i := 5) (oi := ⟨some 146, _, _, _, _, _⟩) (v := ?vr95) rfl (by kernel_rfl) (by kernel_rfl) (by kernel_rfl) (fun _ _ _ h => h) (Or.inl ⟨by rfl, ?hyr95⟩) hHeld2 ?restr95
                    case hyr95 => (intro W hSw; (try dsimp only at hSw); (try obtain ⟨hSw1, hSw2⟩ := hSw); (try obtain ⟨hSw2, hSw3⟩ := hSw2); go_simp; first | done | with_reducible rfl)
                    simp only [Act.put, List.setIfInBounds_toArray, List.set_cons_zero, List.set_cons_succ]
                    refine wpAnyH_take (i := 6) (oi := ⟨some 147, _, _, _, _, _⟩) (v := ?vr96) rfl (by kernel_rfl) (by kernel_rfl) (by kernel_rfl) (fun _ _ _ h => h) (Or.inl ⟨by rfl, ?hyr96⟩) hHeld2 ?restr96
                    case hyr96 => (intro W hSw; (try dsimp only at hSw); (try obtain ⟨hSw1, hSw2⟩ := hSw); (try obtain ⟨hSw2, hSw3⟩ := hSw2); go_simp; first | done | with_reducible rfl)
                    simp only [Act.put, List.setIfInBounds_toArray, List.set_cons_zero, List.set_cons_succ]
                    refine wpAnyH_take (i := 7) (oi := ⟨some 17, _, _, _, _, _⟩) (v := ?vr97) rfl (by kernel_rfl) (by kernel_rfl) (by kernel_rfl) (fun _ _ _ h => h) (Or.inl ⟨by rfl, ?hyr97⟩) hHeld2 ?restr97
                    case hyr97 => (intro W hSw; (try dsimp only at hSw); (try obtain ⟨hSw1, hSw2⟩ := hSw); (try obtain ⟨hSw2, hSw3⟩ := hSw2); go_simp; first | done | with_reducible rfl)
                    simp only [Act.put, List.setIfInBounds_toArray, List.set_cons_zero, List.set_cons_succ]
                    refine wpAnyH_done (by kernel_rfl) ?_ _
                    clear hHeld hHeld2 d0 d1 d2 d3 d4 d5 HQ HQ2 CF
                    go_wp2_with fail
                    refine (CP2.out w22 HQ4.out).mono ?_; rintro e w21 ⟨rfl, hb21⟩
                    have HQ3 := Lib.hid (HQ4.out.below hb21)
                    clear hb21 CP2 HQ4
                    go_wp2_with fail
                    go_roundw
                    case rel => exact ⟨j + 1, by have := HJ.out; omega, by rw [HZ.out], HQ3⟩
                    case measure => have := HJ.out; have := HZ2.out; simp [intOf]; omega
                · have hj2 : j = 13 := by omega
                  have hz12 : z = 12 := by omega
                  subst hz12
                  subst hj2
                  clear hz hj13
                  go_wp2_with fail
                  go_roundw
                  case rel => exact ⟨k + 1, pa, pp, n, ca, cp, l, by omega, by omega, by first | rfl | go_num, HQ⟩
                  case measure => simp [intOf]; omega
        · by_cases h4 : y.length = 1
          · obtain ⟨b2, o2, rfl, hcs⟩ := Drr.ints_both hI.out (by omega)
            have HCA := Lib.hid (fun W hW => hcs W hW 0 (by omega))
            generalize y[0]?.getD 0 = x0 at HCA
            rw [h4] at hq
            clear hcs hI h3 h4 hlen2
            have c0 : wr.cell? ⟨b2, o2, none⟩ = some (.int .i64 x0) := HCA.out wr HP.out.bel
            by_cases hF : isP x0
            · have I0 := Lib.hid (fun W => Drr.in_any x0 0 3 W true (in_true hF))
              have CD := Lib.hid (fun W (HW : PS w W s xb pa pp n ca cp l l) => rdown_any pa pp n n ca cp l x0 W HW.len HW.len HW.a HW.p HW.sw.ok)
              have CG := Lib.hid (fun X W (H : Sw X W s l) => down_good X s l x0 W H hF)
              have E0 := Lib.hid (fun W hW => ER.out 0 W hW)
              rw [er_0] at CG E0
              have hN8 := HP.out.sw.ok.len
              have hN28 : (down l x0).length ≤ 8 := (down_ok HP.out.sw.ok x0).len
              generalize down l x0 = l2 at CD CG hN28
              obtain ⟨N2, hN2⟩ : ∃ N2, l2.length = N2 := ⟨_, rfl⟩
              have hnl := HP.out.len
              rw [← hnl] at CG hN8
              rw [hN2] at CD CG hN28
              have HN2 := Lib.hid hN2
              have d0 := HP.out.x.cell 0 _ rfl
              have d1 := HP.out.x.cell 1 _ rfl
              have wr1 : IntKind.i64.wrap ((n : Int) - (N2 : Int)) = (n : Int) - (N2 : Int) := by rw [IntKind.wrap_i64]; omega
              have ud : ((n : Int) - (N2 : Int) != (n : Int) - (N2 : Int)) = false := by simp
              clear hF hN2 hnl hN8 hN28
              go_wp2_with fail
              refine (I0.out _).mono ?_; rintro e w3 ⟨rfl, rfl⟩
              clear I0
              go_wp2_with fail
              refine wp_region_held_drew (S := (fun W' => W'.cell? ⟨xb, 0, none⟩ = some (.slice pa n ca) ∧ W'.cell? ⟨xb, 1, none⟩ = some (.slice pp n cp) ∧ W'.cell? ⟨b2, o2, none⟩ = some (.int .i64 x0))) (by kernel_rfl) (⟨d0, d1, c0⟩) (fun hHeld => ?_)
              refine wpAnyH_take (i := 0) (oi := ⟨some 103, _, _, _, _, _⟩) (v := ?vq0) rfl (by kernel_rfl) (by kernel_rfl) (by kernel_rfl) (fun _ _ _ h => h) (Or.inl ⟨by rfl, ?hyq0⟩) hHeld ?restq0
              case hyq0 => (intro W hSw; (try dsimp only at hSw); (try obtain ⟨hSw1, hSw2⟩ := hSw); (try obtain ⟨hSw2, hSw3⟩ := hSw2); go_simp; first | done | with_reducible rfl)
              simp only [Act.put, List.setIfInBounds_toArray, List.set_cons_zero, List.set_cons_succ]
              refine wpAnyH_take (i := 1) (oi := ⟨some 104, _, _, _, _, _⟩) (v := ?vq1) rfl (by kernel_rfl) (by kernel_rfl) (by kernel_rfl) (fun _ _ _ h => h) (Or.inl ⟨by rfl, ?hyq1⟩) hHeld ?restq1
              case hyq1 => (intro W hSw; (try dsimp only at hSw); (try obtain ⟨hSw1, hSw2⟩ := hSw); (try obtain ⟨hSw2, hSw3⟩ := hSw2); go_simp; first | done | with_reducible rfl)
              simp only [Act.put, List.setIfInBounds_toArray, List.set_cons_zero, List.set_cons_succ]
              refine wpAnyH_take (i := 2) (oi := ⟨some 105, _, _, _, _, _⟩) (v := ?vq2) rfl (by kernel_rfl) (by kernel_rfl) (by kernel_rfl) (fun _ _ _ h => h) (Or.inl ⟨by rfl, ?hyq2⟩) hHeld ?restq2
              case hyq2 => (intro W hSw; (try dsimp only at hSw); (try obtain ⟨hSw1, hSw2⟩ := hSw); (try obtain ⟨hSw2, hSw3⟩ := hSw2); go_simp; first | done | with_reducible rfl)
              simp only [Act.put, List.setIfInBounds_toArray, List.set_cons_zero, List.set_cons_succ]
              refine wpAnyH_take (i := 3) (oi := ⟨some 106, _, _, _, _, _⟩) (v := ?vq3) rfl (by kernel_rfl) (by kernel_rfl) (by kernel_rfl) (fun _ _ _ h => h) (Or.inl ⟨by rfl, ?hyq3⟩) hHeld ?restq3
              case hyq3 => (intro W hSw; (try dsimp only at hSw); (try obtain ⟨hSw1, hSw2⟩ := hSw); (try obtain ⟨hSw2, hSw3⟩ := hSw2); go_simp; first | done | with_reducible rfl)
              simp only [Act.put, List.setIfInBounds_toArray, List.set_cons_zero, List.set_cons_succ]
              refine wpAnyH_ready (rs := [4, 5]) (by kernel_rfl) (by simp) ?_
              refine AllReadyH.cons (o := ⟨some 107, _, _, _, _, _⟩) rfl (fun KK hK => ?ga) (AllReadyH.cons (o := ⟨some 13, _, _, _, _, _⟩) rfl (fun KK hK => ?gb) AllReadyH.nil)
              case ga =>
                go_simp
                refine (CD.out w3.drew (HP.out.below ⟨rfl, rfl, rfl, Nat.le_refl _, fun _ _ => rfl⟩)).mono ?_; rintro e w6 ⟨pa2, pp2, ca2, cp2, rfl, ht6, hb6⟩
                have hb6 : Below w3.heap.size w3 w6 := ⟨hb6.os, hb6.tape, hb6.output, hb6.size, hb6.block⟩
                have ht6 : Two w3.heap.size w6 pa2 pp2 ca2 cp2 l2 := ht6
                have HX6 := Lib.hid (HP.out.x.below hb6)
                have HC6 := Lib.hid (HCA.out w6 (bcall HP.out.bel hb6))
                have hb8 : Below w3.heap.size w3 (w6.alloc (.cells #[.slice none 0 0, .slice none 0 0] 39)) := balloc hb6 _
                go_wp2_with fail
                refine hK.out _ _ (⟨HX6.out.cell 0 _ rfl, HX6.out.cell 1 _ rfl, HC6.out⟩) (fun hHeld2 => ?_)
                clear hK KK
                try simp only [Act.put, List.setIfInBounds_toArray, List.set_cons_zero, List.set_cons_succ]
                refine wpAnyH_ready (rs := [5]) (by kernel_rfl) (by simp) ?_
                refine AllReadyH.cons (o := ⟨some 13, _, _, _, _, _⟩) rfl (fun KK2 hK2 => ?_) AllReadyH.nil
                go_simp
                refine hK2.out _ _ (⟨(HX6.out.alloc _).cell 0 _ rfl, (HX6.out.alloc _).cell 1 _ rfl, HCA.out _ (bcall HP.out.bel hb8)⟩) (fun hHeld3 => ?_)
                clear hK2 KK2 HX6 HC6 hb8
                try simp only [Act.put, List.setIfInBounds_toArray, List.set_cons_zero, List.set_cons_succ]
                refine wpAnyH_ready (rs := [6]) (by kernel_rfl) (by simp) ?_
                refine AllReadyH.cons (o := ⟨none, _, _, _, _, _⟩) rfl (fun KK3 hK3 => ?_) AllReadyH.nil
                have HZ9 := Lib.hid (Blk.new w6 39 [.slice pa2 N2 ca2, .slice pp2 N2 cp2])
                have HT9 := Lib.hid (ht6.below (balloc (brefl w6) (.cells #[.slice pa2 N2 ca2, .slice pp2 N2 cp2] 39)))
                have HB9 := Lib.hid (balloc hb6 (.cells #[.slice pa2 N2 ca2, .slice pp2 N2 cp2] 39))
                have HX9 := Lib.hid (HP.out.x.below HB9.out)
                have HC9 := Lib.hid (HCA.out _ (bcall HP.out.bel HB9.out))
                clear hb6 ht6
                go_simp
                refine hK3.out _ _ (⟨HX9.out.cell 0 _ rfl, HX9.out.cell 1 _ rfl, HC9.out⟩) (fun hHeld4 => ?_)
                clear hK3 KK3
                try simp only [Act.put, List.setIfInBounds_toArray, List.set_cons_zero, List.set_cons_succ]
                refine wpAnyH_done (by kernel_rfl) ?_ _
                clear hHeld hHeld2 hHeld3 hHeld4 d0 d1 c0 HC9
                generalize w6.heap.size = g9 at HZ9 ⊢
                generalize w6.alloc (.cells #[.slice pa2 N2 ca2, .slice pp2 N2 cp2] 39) = w9 at HZ9 HT9 HB9 HX9 ⊢
                have HP10 := Lib.hid (HP.out.store HB9.out HT9.out HN2.out.symm)
                have d0 := HX9.out.cell 0 _ rfl
                have d1 := HX9.out.cell 1 _ rfl
                have f0 := HX9.out.fz 0
                have f1 := HX9.out.fz 1
                have z0 := HZ9.out.cell 0 _ rfl
                have z1 := HZ9.out.cell 1 _ rfl
                have c0 : ((w9.setCell ⟨xb, 0, none⟩ (.slice pa2 N2 ca2)).setCell ⟨xb, 1, none⟩ (.slice pp2 N2 cp2)).cell? ⟨b2, o2, none⟩ = some (.int .i64 x0) := HCA.out _ HP10.out.bel
                clear HX9 HZ9 HT9 HB9 HP hq CD
                go_wp2_with fail
                generalize (w9.setCell ⟨xb, 0, none⟩ (.slice pa2 N2 ca2)).setCell ⟨xb, 1, none⟩ (.slice pp2 N2 cp2) = w10 at HP10 c0 ⊢
                refine (CG.out _ w10 HP10.out.sw).mono ?_; rintro e w11 ⟨rfl, hs11, hk11⟩
                have HP11 := Lib.hid (HP10.out.turn hs11 hk11)
                clear hs11 hk11 HP10 CG c0 d0 d1 f0 f1 z0 z1
                go_wp2_with fail
                refine (E0.out w11 HP11.out.bel).mono ?_; rintro e w12 ⟨rfl, hb12⟩
                have HP := Lib.hid (HP11.out.below hb12)
                clear hb12 HP11 E0
                go_wp2_with fail
                go_loopw [16] (fun av wr => ∃ j : Nat, j ≤ 13 ∧ av = .int .i64 ((j : Int) - 1) ∧ Hid (PS w wr s xb (pa2) (pp2) (N2) (ca2) (cp2) (l2) (l2))) (fun i _ => (12 - intOf i).toNat)
                case atStart => exact ⟨0, by omega, rfl, HP⟩
                case round =>
                  obtain ⟨j, hj, rfl, HQ⟩ := hrel
                  clear HP
                  obtain ⟨z, hz⟩ : ∃ z, (j : Int) - 1 = z := ⟨_, rfl⟩
                  rw [hz]
                  by_cases hj13 : j < 13
                  · have u5 : decide (z < 12) = true := decide_eq_true (by omega)
                    have wr1 : IntKind.i64.wrap (z + 1) = z + 1 := by rw [IntKind.wrap_i64]; omega
                    have HZ := Lib.hid (show ((j + 1 : Nat) : Int) - 1 = z + 1 by omega)
                    have HZ2 := Lib.hid (show z = (j : Int) - 1 by omega)
                    have HJ := Lib.hid hj13
                    have d0 := HQ.out.x.cell 0 _ rfl
                    have d1 := HQ.out.x.cell 1 _ rfl
                    have CF := Lib.hid (fun W (hW : PS w W s xb (pa2) (pp2) (N2) (ca2) (cp2) (l2) (l2)) => rfind_any (pa2) (pp2) (N2) (N2) (ca2) (cp2) (l2) z W hW.len hW.a)
                    have CP2 := Lib.hid (fun W (hW : PS w W s xb (pa2) (pp2) (N2) (ca2) (cp2) (l2) (l2)) => port_any _ s (l2) z W hW.sw)
                    clear hz hj13
                    rcases idx_cases (l2) z with ⟨g1, g2⟩ | ⟨k2, x, g1, g2, g3⟩
                    · rw [g1] at CF
                      rw [g2] at CP2
                      clear g1 g2
                      go_wp2_with fail
                      refine (CF.out wr HQ.out).mono ?_; rintro e w20 ⟨rfl, hb20⟩
                      have HQ2 := Lib.hid (HQ.out.below hb20)
                      clear hb20 CF HQ
                      go_wp2_with fail
                      refine (CP2.out w20 HQ2.out).mono ?_; rintro e w21 ⟨rfl, hb21⟩
                      have HQ3 := Lib.hid (HQ2.out.below hb21)
                      clear hb21 CP2 HQ2
                      go_wp2_with fail
                      go_roundw
                      case rel => exact ⟨j + 1, by have := HJ.out; omega, by rw [HZ.out], HQ3⟩
                      case measure => have := HJ.out; have := HZ2.out; simp [intOf]; omega
                    · rw [g1] at CF
                      rw [g3] at CP2
                      have u6 : decide ((k2 : Int) ≥ 0) = true := decide_eq_true (by omega)
                      have hk2 := lt_of_at g2
                      have hlen := HQ.out.len
                      rw [← hlen] at hk2
                      have hk2z : (k2 : Int) < ((N2 : Nat) : Int) := by omega
                      obtain ⟨b3, o3, e3, hcc⟩ := Drr.ints_both HQ.out.p (by rw [List.length_map]; omega)
                      have HCC := Lib.hid (fun W hW => (hcc W hW k2 (by rw [List.length_map]; omega)).trans (by rw [snd_at g2]))
                      obtain ⟨x1, x2⟩ := x
                      simp only at HCC CP2
                      subst e3
                      clear g1 g2 g3 hcc hlen
                      go_wp2_with fail
                      refine (CF.out wr HQ.out).mono ?_; rintro e w20 ⟨rfl, hb20⟩
                      have HQ2 := Lib.hid (HQ.out.below hb20)
                      have HB20 := Lib.hid hb20
                      clear hb20
                      have d0 := HQ2.out.x.cell 0 _ rfl
                      have d1 := HQ2.out.x.cell 1 _ rfl
                      have d2 := HCC.out w20 HB20.out
                      go_wp2_with fail
                      refine wp_region_held_drew (S := (fun W' => W'.cell? ⟨xb, 0, none⟩ = some (.slice pa2 (N2) (ca2)) ∧ W'.cell? ⟨xb, 1, none⟩ = some (.slice (some ⟨b3, o3, none⟩) (N2) (cp2)) ∧ W'.cell? ⟨b3, o3 + k2, none⟩ = some (.int .i64 x2))) (by kernel_rfl) (⟨d0, d1, d2⟩) (fun hHeld => ?_)
                      refine wpAnyH_take (i := 0) (oi := ⟨some 141, _, _, _, _, _⟩) (v := ?vr110) rfl (by kernel_rfl) (by kernel_rfl) (by kernel_rfl) (fun _ _ _ h => h) (Or.inl ⟨by rfl, ?hyr110⟩) hHeld ?restr110
                      case hyr110 => (intro W hSw; (try dsimp only at hSw); (try obtain ⟨hSw1, hSw2⟩ := hSw); (try obtain ⟨hSw2, hSw3⟩ := hSw2); go_simp; first | done | with_reducible rfl)
                      simp only [Act.put, List.setIfInBounds_toArray, List.set_cons_zero, List.set_cons_succ]
                      refine wpAnyH_take (i := 1) (oi := ⟨some 142, _, _, _, _, _⟩) (v := ?vr111) rfl (by kernel_rfl) (by kernel_rfl) (by kernel_rfl) (fun _ _ _ h => h) (Or.inl ⟨by rfl, ?hyr111⟩) hHeld ?restr111
                      case hyr111 => (intro W hSw; (try dsimp only at hSw); (try obtain ⟨hSw1, hSw2⟩ := hSw); (try obtain ⟨hSw2, hSw3⟩ := hSw2); go_simp; first | done | with_reducible rfl)
                      simp only [Act.put, List.setIfInBounds_toArray, List.set_cons_zero, List.set_cons_succ]
                      refine wpAnyH_take (i := 2) (oi := ⟨some 143, _, _, _, _, _⟩) (v := ?vr112) rfl (by kernel_rfl) (by kernel_rfl) (by kernel_rfl) (fun _ _ _ h => h) (Or.inl ⟨by rfl, ?hyr112⟩) hHeld ?restr112
                      case hyr112 => (intro W hSw; (try dsimp only at hSw); (try obtain ⟨hSw1, hSw2⟩ := hSw); (try obtain ⟨hSw2, hSw3⟩ := hSw2); go_simp; first | done | with_reducible rfl)
                      simp only [Act.put, List.setIfInBounds_toArray, List.set_cons_zero, List.set_cons_succ]
                      refine wpAnyH_take (i := 3) (oi := ⟨some 144, _, _, _, _, _⟩) (v := ?vr113) rfl (by kernel_rfl) (by kernel_rfl) (by kernel_rfl) (fun _ _ _ h => h) (Or.inl ⟨by rfl, ?hyr113⟩) hHeld ?restr113
                      case hyr113 => (intro W hSw; (try dsimp only at hSw); (try obtain ⟨hSw1, hSw2⟩ := hSw); (try obtain ⟨hSw2, hSw3⟩ := hSw2); go_simp; first | done | with_reducible rfl)
                      simp only [Act.put, List.setIfInBounds_toArray, List.set_cons_zero, List.set_cons_succ]
                      refine wpAnyH_ready (rs := [4]) (by kernel_rfl) (by simp) ?_
                      refine AllReadyH.cons (o := ⟨some 145, _, _, _, _, _⟩) rfl (fun KK hK => ?_) AllReadyH.nil
                      go_simp
                      refine (CF.out w20.drew (HQ2.out.below ⟨rfl, rfl, rfl, Nat.le_refl _, fun _ _ => rfl⟩)).mono ?_; rintro e w22 ⟨rfl, hb22⟩
                      have hb23 : Below w20.heap.size w20 w22 := ⟨hb22.os, hb22.tape, hb22.output, hb22.size, hb22.block⟩
                      have HQ4 := Lib.hid (HQ2.out.below hb23)
                      have d3 := HQ4.out.x.cell 0 _ rfl
                      have d4 := HQ4.out.x.cell 1 _ rfl
                      have d5 := HCC.out w22 (bcall HB20.out hb23)
                      clear hb22 hb23
                      go_wp2_with fail
                      refine hK.out _ _ (⟨d3, d4, d5⟩) (fun hHeld2 => ?_)
                      clear hK KK
                      try simp only [Act.put, List.setIfInBounds_toArray, List.set_cons_zero, List.set_cons_succ]
                      refine wpAnyH_take (i := 5) (oi := ⟨some 146, _, _, _, _, _⟩) (v := ?vr115) rfl (by kernel_rfl) (by kernel_rfl) (by kernel_rfl) (fun _ _ _ h => h) (Or.inl ⟨by rfl, ?hyr115⟩) hHeld2 ?restr115
                      case hyr115 => (intro W hSw; (try dsimp only at hSw); (try obtain ⟨hSw1, hSw2⟩ := hSw); (try obtain ⟨hSw2, hSw3⟩ := hSw2); go_simp; first | done | with_reducible rfl)
                      simp only [Act.put, List.setIfInBounds_toArray, List.set_cons_zero, List.set_cons_succ]
                      refine wpAnyH_take (i := 6) (oi := ⟨some 147, _, _, _, _, _⟩) (v := ?vr116) rfl (by kernel_rfl) (by kernel_rfl) (by kernel_rfl) (fun _ _ _ h => h) (Or.inl ⟨by rfl, ?hyr116⟩) hHeld2 ?restr116
                      case hyr116 => (intro W hSw; (try dsimp only at hSw); (try obtain ⟨hSw1, hSw2⟩ := hSw); (try obtain ⟨hSw2, hSw3⟩ := hSw2); go_simp; first | done | with_reducible rfl)
                      simp only [Act.put, List.setIfInBounds_toArray, List.set_cons_zero, List.set_cons_succ]
                      refine wpAnyH_take (i := 7) (oi := ⟨some 17, _, _, _, _, _⟩) (v := ?vr117) rfl (by kernel_rfl) (by kernel_rfl) (by kernel_rfl) (fun _ _ _ h => h) (Or.inl ⟨by rfl, ?hyr117⟩) hHeld2 ?restr117
                      case hyr117 => (intro W hSw; (try dsimp only at hSw); (try obtain ⟨hSw1, hSw2⟩ := hSw); (try obtain ⟨hSw2, hSw3⟩ := hSw2); go_simp; first | done | with_reducible rfl)
                      simp only [Act.put, List.setIfInBounds_toArray, List.set_cons_zero, List.set_cons_succ]
                      refine wpAnyH_done (by kernel_rfl) ?_ _
                      clear hHeld hHeld2 d0 d1 d2 d3 d4 d5 HQ HQ2 CF
                      go_wp2_with fail
                      refine (CP2.out w22 HQ4.out).mono ?_; rintro e w21 ⟨rfl, hb21⟩
                      have HQ3 := Lib.hid (HQ4.out.below hb21)
                      clear hb21 CP2 HQ4
                      go_wp2_with fail
                      go_roundw
                      case rel => exact ⟨j + 1, by have := HJ.out; omega, by rw [HZ.out], HQ3⟩
                      case measure => have := HJ.out; have := HZ2.out; simp [intOf]; omega
                  · have hj2 : j = 13 := by omega
                    have hz12 : z = 12 := by omega
                    subst hz12
                    subst hj2
                    clear hz hj13
                    go_wp2_with fail
                    go_roundw
                    case rel => exact ⟨k + 1, pa2, pp2, N2, ca2, cp2, l2, by omega, by omega, by first | rfl | go_num, HQ⟩
                    case measure => simp [intOf]; omega
              case gb =>
                go_simp
                have hb4 : Below w3.heap.size w3 (w3.alloc (.cells #[.slice none 0 0, .slice none 0 0] 39)).drew := (balloc (brefl w3) (.cells #[.slice none 0 0, .slice none 0 0] 39)).drew
                have hz4 : Blk 39 (w3.alloc (.cells #[.slice none 0 0, .slice none 0 0] 39)).drew w3.heap.size [.slice none 0 0, .slice none 0 0] := Blk.new w3 39 _
                have HP4 := Lib.hid (HP.out.below hb4)
                refine hK.out _ _ (⟨HP4.out.x.cell 0 _ rfl, HP4.out.x.cell 1 _ rfl, HCA.out _ HP4.out.bel⟩) (fun hHeld2 => ?_)
                clear hK KK
                try simp only [Act.put, List.setIfInBounds_toArray, List.set_cons_zero, List.set_cons_succ]
                refine wpAnyH_ready (rs := [4]) (by kernel_rfl) (by simp) ?_
                refine AllReadyH.cons (o := ⟨some 107, _, _, _, _, _⟩) rfl (fun KK2 hK2 => ?_) AllReadyH.nil
                go_simp
                refine (CD.out _ HP4.out).mono ?_; rintro e w6 ⟨pa2, pp2, ca2, cp2, rfl, ht6, hb6⟩
                have hz := hz4.below hb6
                have HP6 := Lib.hid (HP4.out.below hb6)
                have hg : w3.heap.size ≤ w3.heap.size := Nat.le_refl _
                have hgl := hz4.lt
                have hne : ∀ x : Addr, (pa2 = some x → x.block ≠ w3.heap.size) ∧ (pp2 = some x → x.block ≠ w3.heap.size) := fun x => ⟨fun e => by have := (ht6.la x e).1; omega, fun e => by have := (ht6.lp x e).1; omega⟩
                have hb8 : Below w3.heap.size w3 w6 := bcall hb4 hb6
                have ht8 := ht6.mono hb4.size
                have HX6 := Lib.hid HP6.out.x
                have HC6 := Lib.hid (HCA.out w6 HP6.out.bel)
                clear hb6 ht6 hz4 hb4 HP4 HP6 hgl
                go_wp2_with fail
                refine hK2.out _ _ (⟨HX6.out.cell 0 _ rfl, HX6.out.cell 1 _ rfl, HC6.out⟩) (fun hHeld3 => ?_)
                clear hK2 KK2 HX6 HC6
                try simp only [Act.put, List.setIfInBounds_toArray, List.set_cons_zero, List.set_cons_succ]
                refine wpAnyH_ready (rs := [6]) (by kernel_rfl) (by simp) ?_
                refine AllReadyH.cons (o := ⟨none, _, _, _, _, _⟩) rfl (fun KK3 hK3 => ?_) AllReadyH.nil
                have hz0 := hz.cell 0 _ rfl
                have hz1 := hz.cell 1 _ rfl
                have hf0 := hz.fz 0
                have hf1 := hz.fz 1
                have HP8 := Lib.hid (HP.out.below hb8)
                have hxg : xb ≠ w3.heap.size := by have := HP.out.x.lt; omega
                have HZ9 := Lib.hid ((hz.set 0 (.slice pa2 N2 ca2)).set 1 (.slice pp2 N2 cp2))
                have HT9 := Lib.hid ((ht8.set w3.heap.size 0 (.slice pa2 N2 ca2) (fun x e => (hne x).1 e) (fun x e => (hne x).2 e)).set w3.heap.size 1 (.slice pp2 N2 cp2) (fun x e => (hne x).1 e) (fun x e => (hne x).2 e))
                have HB9 := Lib.hid (below_set (below_set hb8 w3.heap.size 0 (.slice pa2 N2 ca2) hg) w3.heap.size 1 (.slice pp2 N2 cp2) hg)
                have HX9 := Lib.hid (((HP8.out.x.other w3.heap.size 0 (.slice pa2 N2 ca2) hxg).other w3.heap.size 1 (.slice pp2 N2 cp2) hxg))
                have HC9 := Lib.hid (HCA.out _ (HP.out.bel.trans (HB9.out.mono HP.out.bel.size)))
                clear hz hb8 ht8 hg hne HP8 hxg
                go_simp
                refine hK3.out _ _ (⟨HX9.out.cell 0 _ rfl, HX9.out.cell 1 _ rfl, HC9.out⟩) (fun hHeld4 => ?_)
                clear hK3 KK3
                try simp only [Act.put, List.setIfInBounds_toArray, List.set_cons_zero, List.set_cons_succ]
                refine wpAnyH_done (by kernel_rfl) ?_ _
                clear hHeld hHeld2 hHeld3 hHeld4 hz0 hz1 hf0 hf1 d0 d1 c0 HC9
                generalize (w6.setCell ⟨w3.heap.size, 0, none⟩ (.slice pa2 N2 ca2)).setCell ⟨w3.heap.size, 1, none⟩ (.slice pp2 N2 cp2) = w9 at HZ9 HT9 HB9 HX9 ⊢
                have HP10 := Lib.hid (HP.out.store HB9.out HT9.out HN2.out.symm)
                have d0 := HX9.out.cell 0 _ rfl
                have d1 := HX9.out.cell 1 _ rfl
                have f0 := HX9.out.fz 0
                have f1 := HX9.out.fz 1
                have z0 := HZ9.out.cell 0 _ rfl
                have z1 := HZ9.out.cell 1 _ rfl
                have c0 : ((w9.setCell ⟨xb, 0, none⟩ (.slice pa2 N2 ca2)).setCell ⟨xb, 1, none⟩ (.slice pp2 N2 cp2)).cell? ⟨b2, o2, none⟩ = some (.int .i64 x0) := HCA.out _ HP10.out.bel
                clear HX9 HZ9 HT9 HB9 HP hq CD
                go_wp2_with fail
                generalize (w9.setCell ⟨xb, 0, none⟩ (.slice pa2 N2 ca2)).setCell ⟨xb, 1, none⟩ (.slice pp2 N2 cp2) = w10 at HP10 c0 ⊢
                refine (CG.out _ w10 HP10.out.sw).mono ?_; rintro e w11 ⟨rfl, hs11, hk11⟩
                have HP11 := Lib.hid (HP10.out.turn hs11 hk11)
                clear hs11 hk11 HP10 CG c0 d0 d1 f0 f1 z0 z1
                go_wp2_with fail
                refine (E0.out w11 HP11.out.bel).mono ?_; rintro e w12 ⟨rfl, hb12⟩
                have HP := Lib.hid (HP11.out.below hb12)
                clear hb12 HP11 E0
                go_wp2_with fail
                go_loopw [16] (fun av wr => ∃ j : Nat, j ≤ 13 ∧ av = .int .i64 ((j : Int) - 1) ∧ Hid (PS w wr s xb (pa2) (pp2) (N2) (ca2) (cp2) (l2) (l2))) (fun i _ => (12 - intOf i).toNat)
                case atStart => exact ⟨0, by omega, rfl, HP⟩
                case round =>
                  obtain ⟨j, hj, rfl, HQ⟩ := hrel
                  clear HP
                  obtain ⟨z, hz⟩ : ∃ z, (j : Int) - 1 = z := ⟨_, rfl⟩
                  rw [hz]
                  by_cases hj13 : j < 13
                  · have u5 : decide (z < 12) = true := decide_eq_true (by omega)
                    have wr1 : IntKind.i64.wrap (z + 1) = z + 1 := by rw [IntKind.wrap_i64]; omega
                    have HZ := Lib.hid (show ((j + 1 : Nat) : Int) - 1 = z + 1 by omega)
                    have HZ2 := Lib.hid (show z = (j : Int) - 1 by omega)
                    have HJ := Lib.hid hj13
                    have d0 := HQ.out.x.cell 0 _ rfl
                    have d1 := HQ.out.x.cell 1 _ rfl
                    have CF := Lib.hid (fun W (hW : PS w W s xb (pa2) (pp2) (N2) (ca2) (cp2) (l2) (l2)) => rfind_any (pa2) (pp2) (N2) (N2) (ca2) (cp2) (l2) z W hW.len hW.a)
                    have CP2 := Lib.hid (fun W (hW : PS w W s xb (pa2) (pp2) (N2) (ca2) (cp2) (l2) (l2)) => port_any _ s (l2) z W hW.sw)
                    clear hz hj13
                    rcases idx_cases (l2) z with ⟨g1, g2⟩ | ⟨k2, x, g1, g2, g3⟩
                    · rw [g1] at CF
                      rw [g2] at CP2
                      clear g1 g2
                      go_wp2_with fail
                      refine (CF.out wr HQ.out).mono ?_; rintro e w20 ⟨rfl, hb20⟩
                      have HQ2 := Lib.hid (HQ.out.below hb20)
                      clear hb20 CF HQ
                      go_wp2_with fail
                      refine (CP2.out w20 HQ2.out).mono ?_; rintro e w21 ⟨rfl, hb21⟩
                      have HQ3 := Lib.hid (HQ2.out.below hb21)
                      clear hb21 CP2 HQ2
                      go_wp2_with fail
                      go_roundw
                      case rel => exact ⟨j + 1, by have := HJ.out; omega, by rw [HZ.out], HQ3⟩
                      case measure => have := HJ.out; have := HZ2.out; simp [intOf]; omega
                    · rw [g1] at CF
                      rw [g3] at CP2
                      have u6 : decide ((k2 : Int) ≥ 0) = true := decide_eq_true (by omega)
                      have hk2 := lt_of_at g2
                      have hlen := HQ.out.len
                      rw [← hlen] at hk2
                      have hk2z : (k2 : Int) < ((N2 : Nat) : Int) := by omega
                      obtain ⟨b3, o3, e3, hcc⟩ := Drr.ints_both HQ.out.p (by rw [List.length_map]; omega)
                      have HCC := Lib.hid (fun W hW => (hcc W hW k2 (by rw [List.length_map]; omega)).trans (by rw [snd_at g2]))
                      obtain ⟨x1, x2⟩ := x
                      simp only at HCC CP2
                      subst e3
                      clear g1 g2 g3 hcc hlen
                      go_wp2_with fail
                      refine (CF.out wr HQ.out).mono ?_; rintro e w20 ⟨rfl, hb20⟩
                      have HQ2 := Lib.hid (HQ.out.below hb20)
                      have HB20 := Lib.hid hb20
                      clear hb20
                      have d0 := HQ2.out.x.cell 0 _ rfl
                      have d1 := HQ2.out.x.cell 1 _ rfl
                      have d2 := HCC.out w20 HB20.out
                      go_wp2_with fail
                      refine wp_region_held_drew (S := (fun W' => W'.cell? ⟨xb, 0, none⟩ = some (.slice pa2 (N2) (ca2)) ∧ W'.cell? ⟨xb, 1, none⟩ = some (.slice (some ⟨b3, o3, none⟩) (N2) (cp2)) ∧ W'.cell? ⟨b3, o3 + k2, none⟩ = some (.int .i64 x2))) (by kernel_rfl) (⟨d0, d1, d2⟩) (fun hHeld => ?_)
                      refine wpAnyH_take (i := 0) (oi := ⟨some 141, _, _, _, _, _⟩) (v := ?vr120) rfl (by kernel_rfl) (by kernel_rfl) (by kernel_rfl) (fun _ _ _ h => h) (Or.inl ⟨by rfl, ?hyr120⟩) hHeld ?restr120
                      case hyr120 => (intro W hSw; (try dsimp only at hSw); (try obtain ⟨hSw1, hSw2⟩ := hSw); (try obtain ⟨hSw2, hSw3⟩ := hSw2); go_simp; first | done | with_reducible rfl)
                      simp only [Act.put, List.setIfInBounds_toArray, List.set_cons_zero, List.set_cons_succ]
                      refine wpAnyH_take (i := 1) (oi := ⟨some 142, _, _, _, _, _⟩) (v := ?vr121) rfl (by kernel_rfl) (by kernel_rfl) (by kernel_rfl) (fun _ _ _ h => h) (Or.inl ⟨by rfl, ?hyr121⟩) hHeld ?restr121
                      case hyr121 => (intro W hSw; (try dsimp only at hSw); (try obtain ⟨hSw1, hSw2⟩ := hSw); (try obtain ⟨hSw2, hSw3⟩ := hSw2); go_simp; first | done | with_reducible rfl)
                      simp only [Act.put, List.setIfInBounds_toArray, List.set_cons_zero, List.set_cons_succ]
                      refine wpAnyH_take (i := 2) (oi := ⟨some 143, _, _, _, _, _⟩) (v := ?vr122) rfl (by kernel_rfl) (by kernel_rfl) (by kernel_rfl) (fun _ _ _ h => h) (Or.inl ⟨by rfl, ?hyr122⟩) hHeld ?restr122
                      case hyr122 => (intro W hSw; (try dsimp only at hSw); (try obtain ⟨hSw1, hSw2⟩ := hSw); (try obtain ⟨hSw2, hSw3⟩ := hSw2); go_simp; first | done | with_reducible rfl)
                      simp only [Act.put, List.setIfInBounds_toArray, List.set_cons_zero, List.set_cons_succ]
                      refine wpAnyH_take (i := 3) (oi := ⟨some 144, _, _, _, _, _⟩) (v := ?vr123) rfl (by kernel_rfl) (by kernel_rfl) (by kernel_rfl) (fun _ _ _ h => h) (Or.inl ⟨by rfl, ?hyr123⟩) hHeld ?restr123
                      case hyr123 => (intro W hSw; (try dsimp only at hSw); (try obtain ⟨hSw1, hSw2⟩ := hSw); (try obtain ⟨hSw2, hSw3⟩ := hSw2); go_simp; first | done | with_reducible rfl)
                      simp only [Act.put, List.setIfInBounds_toArray, List.set_cons_zero, List.set_cons_succ]
                      refine wpAnyH_ready (rs := [4]) (by kernel_rfl) (by simp) ?_
                      refine AllReadyH.cons (o := ⟨some 145, _, _, _, _, _⟩) rfl (fun KK hK => ?_) AllReadyH.nil
                      go_simp
                      refine (CF.out w20.drew (HQ2.out.below ⟨rfl, rfl, rfl, Nat.le_refl _, fun _ _ => rfl⟩)).mono ?_; rintro e w22 ⟨rfl, hb22⟩
                      have hb23 : Below w20.heap.size w20 w22 := ⟨hb22.os, hb22.tape, hb22.output, hb22.size, hb22.block⟩
                      have HQ4 := Lib.hid (HQ2.out.below hb23)
                      have d3 := HQ4.out.x.cell 0 _ rfl
                      have d4 := HQ4.out.x.cell 1 _ rfl
                      have d5 := HCC.out w22 (bcall HB20.out hb23)
                      clear hb22 hb23
                      go_wp2_with fail
                      refine hK.out _ _ (⟨d3, d4, d5⟩) (fun hHeld2 => ?_)
                      clear hK KK
                      try simp only [Act.put, List.setIfInBounds_toArray, List.set_cons_zero, List.set_cons_succ]
                      refine wpAnyH_take (i := 5) (oi := ⟨some 146, _, _, _, _, _⟩) (v := ?vr125) rfl (by kernel_rfl) (by kernel_rfl) (by kernel_rfl) (fun _ _ _ h => h) (Or.inl ⟨by rfl, ?hyr125⟩) hHeld2 ?restr125
                      case hyr125 => (intro W hSw; (try dsimp only at hSw); (try obtain ⟨hSw1, hSw2⟩ := hSw); (try obtain ⟨hSw2, hSw3⟩ := hSw2); go_simp; first | done | with_reducible rfl)
                      simp only [Act.put, List.setIfInBounds_toArray, List.set_cons_zero, List.set_cons_succ]
                      refine wpAnyH_take (i := 6) (oi := ⟨some 147, _, _, _, _, _⟩) (v := ?vr126) rfl (by kernel_rfl) (by kernel_rfl) (by kernel_rfl) (fun _ _ _ h => h) (Or.inl ⟨by rfl, ?hyr126⟩) hHeld2 ?restr126
                      case hyr126 => (intro W hSw; (try dsimp only at hSw); (try obtain ⟨hSw1, hSw2⟩ := hSw); (try obtain ⟨hSw2, hSw3⟩ := hSw2); go_simp; first | done | with_reducible rfl)
                      simp only [Act.put, List.setIfInBounds_toArray, List.set_cons_zero, List.set_cons_succ]
                      refine wpAnyH_take (i := 7) (oi := ⟨some 17, _, _, _, _, _⟩) (v := ?vr127) rfl (by kernel_rfl) (by kernel_rfl) (by kernel_rfl) (fun _ _ _ h => h) (Or.inl ⟨by rfl, ?hyr127⟩) hHeld2 ?restr127
                      case hyr127 => (intro W hSw; (try dsimp only at hSw); (try obtain ⟨hSw1, hSw2⟩ := hSw); (try obtain ⟨hSw2, hSw3⟩ := hSw2); go_simp; first | done | with_reducible rfl)
                      simp only [Act.put, List.setIfInBounds_toArray, List.set_cons_zero, List.set_cons_succ]
                      refine wpAnyH_done (by kernel_rfl) ?_ _
                      clear hHeld hHeld2 d0 d1 d2 d3 d4 d5 HQ HQ2 CF
                      go_wp2_with fail
                      refine (CP2.out w22 HQ4.out).mono ?_; rintro e w21 ⟨rfl, hb21⟩
                      have HQ3 := Lib.hid (HQ4.out.below hb21)
                      clear hb21 CP2 HQ4
                      go_wp2_with fail
                      go_roundw
                      case rel => exact ⟨j + 1, by have := HJ.out; omega, by rw [HZ.out], HQ3⟩
                      case measure => have := HJ.out; have := HZ2.out; simp [intOf]; omega
                  · have hj2 : j = 13 := by omega
                    have hz12 : z = 12 := by omega
                    subst hz12
                    subst hj2
                    clear hz hj13
                    go_wp2_with fail
                    go_roundw
                    case rel => exact ⟨k + 1, pa2, pp2, N2, ca2, cp2, l2, by omega, by omega, by first | rfl | go_num, HQ⟩
                    case measure => simp [intOf]; omega
            · have I0 := Lib.hid (fun W => Drr.in_any x0 0 3 W false (in_false hF))
              have CB := Lib.hid (down_bad s x0 wr hF)
              have E1 := Lib.hid (fun W hW => ER.out 1 W hW)
              rw [er_1] at CB E1
              clear hF
              go_wp2_with fail
              refine (I0.out _).mono ?_; rintro e w3 ⟨rfl, rfl⟩
              clear I0
              go_wp2_with fail
              refine CB.out.mono ?_; rintro e w4 ⟨rfl, hb4⟩
              have HP4 := Lib.hid (HP.out.below hb4)
              clear hb4 CB HP c0 hq
              go_wp2_with fail
              refine (E1.out w4 HP4.out.bel).mono ?_; rintro e w5 ⟨rfl, hb5⟩
              have HP := Lib.hid (HP4.out.below hb5)
              clear hb5 HP4 E1
              go_wp2_with fail
              go_loopw [16] (fun av wr => ∃ j : Nat, j ≤ 13 ∧ av = .int .i64 ((j : Int) - 1) ∧ Hid (PS w wr s xb (pa) (pp) (n) (ca) (cp) (l) (l))) (fun i _ => (12 - intOf i).toNat)
              case atStart => exact ⟨0, by omega, rfl, HP⟩
              case round =>
                obtain ⟨j, hj, rfl, HQ⟩ := hrel
                clear HP
                obtain ⟨z, hz⟩ : ∃ z, (j : Int) - 1 = z := ⟨_, rfl⟩
                rw [hz]
                by_cases hj13 : j < 13
                · have u5 : decide (z < 12) = true := decide_eq_true (by omega)
                  have wr1 : IntKind.i64.wrap (z + 1) = z + 1 := by rw [IntKind.wrap_i64]; omega
                  have HZ := Lib.hid (show ((j + 1 : Nat) : Int) - 1 = z + 1 by omega)
                  have HZ2 := Lib.hid (show z = (j : Int) - 1 by omega)
                  have HJ := Lib.hid hj13
                  have d0 := HQ.out.x.cell 0 _ rfl
                  have d1 := HQ.out.x.cell 1 _ rfl
                  have CF := Lib.hid (fun W (hW : PS w W s xb (pa) (pp) (n) (ca) (cp) (l) (l)) => rfind_any (pa) (pp) (n) (n) (ca) (cp) (l) z W hW.len hW.a)
                  have CP2 := Lib.hid (fun W (hW : PS w W s xb (pa) (pp) (n) (ca) (cp) (l) (l)) => port_any _ s (l) z W hW.sw)
                  clear hz hj13
                  rcases idx_cases (l) z with ⟨g1, g2⟩ | ⟨k2, x, g1, g2, g3⟩
                  · rw [g1] at CF
                    rw [g2] at CP2
                    clear g1 g2
                    go_wp2_with fail
                    refine (CF.out wr HQ.out).mono ?_; rintro e w20 ⟨rfl, hb20⟩
                    have HQ2 := Lib.hid (HQ.out.below hb20)
                    clear hb20 CF HQ
                    go_wp2_with fail
                    refine (CP2.out w20 HQ2.out).mono ?_; rintro e w21 ⟨rfl, hb21⟩
                    have HQ3 := Lib.hid (HQ2.out.below hb21)
                    clear hb21 CP2 HQ2
                    go_wp2_with fail
                    go_roundw
                    case rel => exact ⟨j + 1, by have := HJ.out; omega, by rw [HZ.out], HQ3⟩
                    case measure => have := HJ.out; have := HZ2.out; simp [intOf]; omega
                  · rw [g1] at CF
                    rw [g3] at CP2
                    have u6 : decide ((k2 : Int) ≥ 0) = true := decide_eq_true (by omega)
                    have hk2 := lt_of_at g2
                    have hlen := HQ.out.len
                    rw [← hlen] at hk2
                    have hk2z : (k2 : Int) < ((n : Nat) : Int) := by omega
                    obtain ⟨b3, o3, e3, hcc⟩ := Drr.ints_both HQ.out.p (by rw [List.length_map]; omega)
                    have HCC := Lib.hid (fun W hW => (hcc W hW k2 (by rw [List.length_map]; omega)).trans (by rw [snd_at g2]))
                    obtain ⟨x1, x2⟩ := x
                    simp only at HCC CP2
                    subst e3
                    clear g1 g2 g3 hcc hlen
                    go_wp2_with fail
                    refine (CF.out wr HQ.out).mono ?_; rintro e w20 ⟨rfl, hb20⟩
                    have HQ2 := Lib.hid (HQ.out.below hb20)
                    have HB20 := Lib.hid hb20
                    clear hb20
                    have d0 := HQ2.out.x.cell 0 _ rfl
                    have d1 := HQ2.out.x.cell 1 _ rfl
                    have d2 := HCC.out w20 HB20.out
                    go_wp2_with fail
                    refine wp_region_held_drew (S := (fun W' => W'.cell? ⟨xb, 0, none⟩ = some (.slice pa (n) (ca)) ∧ W'.cell? ⟨xb, 1, none⟩ = some (.slice (some ⟨b3, o3, none⟩) (n) (cp)) ∧ W'.cell? ⟨b3, o3 + k2, none⟩ = some (.int .i64 x2))) (by kernel_rfl) (⟨d0, d1, d2⟩) (fun hHeld => ?_)
                    refine wpAnyH_take (i := 0) (oi := ⟨some 141, _, _, _, _, _⟩) (v := ?vr100) rfl (by kernel_rfl) (by kernel_rfl) (by kernel_rfl) (fun _ _ _ h => h) (Or.inl ⟨by rfl, ?hyr100⟩) hHeld ?restr100
                    case hyr100 => (intro W hSw; (try dsimp only at hSw); (try obtain ⟨hSw1, hSw2⟩ := hSw); (try obtain ⟨hSw2, hSw3⟩ := hSw2); go_simp; first | done | with_reducible rfl)
                    simp only [Act.put, List.setIfInBounds_toArray, List.set_cons_zero, List.set_cons_succ]
                    refine wpAnyH_take (i := 1) (oi := ⟨some 142, _, _, _, _, _⟩) (v := ?vr101) rfl (by kernel_rfl) (by kernel_rfl) (by kernel_rfl) (fun _ _ _ h => h) (Or.inl ⟨by rfl, ?hyr101⟩) hHeld ?restr101
                    case hyr101 => (intro W hSw; (try dsimp only at hSw); (try obtain ⟨hSw1, hSw2⟩ := hSw); (try obtain ⟨hSw2, hSw3⟩ := hSw2); go_simp; first | done | with_reducible rfl)
                    simp only [Act.put, List.setIfInBounds_toArray, List.set_cons_zero, List.set_cons_succ]
                    refine wpAnyH_take (i := 2) (oi := ⟨some 143, _, _, _, _, _⟩) (v := ?vr102) rfl (by kernel_rfl) (by kernel_rfl) (by kernel_rfl) (fun _ _ _ h => h) (Or.inl ⟨by rfl, ?hyr102⟩) hHeld ?restr102
                    case hyr102 => (intro W hSw; (try dsimp only at hSw); (try obtain ⟨hSw1, hSw2⟩ := hSw); (try obtain ⟨hSw2, hSw3⟩ := hSw2); go_simp; first | done | with_reducible rfl)
                    simp only [Act.put, List.setIfInBounds_toArray, List.set_cons_zero, List.set_cons_succ]
                    refine wpAnyH_take (i := 3) (oi := ⟨some 144, _, _, _, _, _⟩) (v := ?vr103) rfl (by kernel_rfl) (by kernel_rfl) (by kernel_rfl) (fun _ _ _ h => h) (Or.inl ⟨by rfl, ?hyr103⟩) hHeld ?restr103
                    case hyr103 => (intro W hSw; (try dsimp only at hSw); (try obtain ⟨hSw1, hSw2⟩ := hSw); (try obtain ⟨hSw2, hSw3⟩ := hSw2); go_simp; first | done | with_reducible rfl)
                    simp only [Act.put, List.setIfInBounds_toArray, List.set_cons_zero, List.set_cons_succ]
                    refine wpAnyH_ready (rs := [4]) (by kernel_rfl) (by simp) ?_
                    refine AllReadyH.cons (o := ⟨some 145, _, _, _, _, _⟩) rfl (fun KK hK => ?_) AllReadyH.nil
                    go_simp
                    refine (CF.out w20.drew (HQ2.out.below ⟨rfl, rfl, rfl, Nat.le_refl _, fun _ _ => rfl⟩)).mono ?_; rintro e w22 ⟨rfl, hb22⟩
                    have hb23 : Below w20.heap.size w20 w22 := ⟨hb22.os, hb22.tape, hb22.output, hb22.size, hb22.block⟩
                    have HQ4 := Lib.hid (HQ2.out.below hb23)
                    have d3 := HQ4.out.x.cell 0 _ rfl
                    have d4 := HQ4.out.x.cell 1 _ rfl
                    have d5 := HCC.out w22 (bcall HB20.out hb23)
                    clear hb22 hb23
                    go_wp2_with fail
                    refine hK.out _ _ (⟨d3, d4, d5⟩) (fun hHeld2 => ?_)
                    clear hK KK
                    try simp only [Act.put, List.setIfInBounds_toArray, List.set_cons_zero, List.set_cons_succ]
                    refine wpAnyH_take (i := 5) (oi := ⟨some 146, _, _, _, _, _⟩) (v := ?vr105) rfl (by kernel_rfl) (by kernel_rfl) (by kernel_rfl) (fun _ _ _ h => h) (Or.inl ⟨by rfl, ?hyr105⟩) hHeld2 ?restr105
                    case hyr105 => (intro W hSw; (try dsimp only at hSw); (try obtain ⟨hSw1, hSw2⟩ := hSw); (try obtain ⟨hSw2, hSw3⟩ := hSw2); go_simp; first | done | with_reducible rfl)
                    simp only [Act.put, List.setIfInBounds_toArray, List.set_cons_zero, List.set_cons_succ]
                    refine wpAnyH_take (i := 6) (oi := ⟨some 147, _, _, _, _, _⟩) (v := ?vr106) rfl (by kernel_rfl) (by kernel_rfl) (by kernel_rfl) (fun _ _ _ h => h) (Or.inl ⟨by rfl, ?hyr106⟩) hHeld2 ?restr106
                    case hyr106 => (intro W hSw; (try dsimp only at hSw); (try obtain ⟨hSw1, hSw2⟩ := hSw); (try obtain ⟨hSw2, hSw3⟩ := hSw2); go_simp; first | done | with_reducible rfl)
                    simp only [Act.put, List.setIfInBounds_toArray, List.set_cons_zero, List.set_cons_succ]
                    refine wpAnyH_take (i := 7) (oi := ⟨some 17, _, _, _, _, _⟩) (v := ?vr107) rfl (by kernel_rfl) (by kernel_rfl) (by kernel_rfl) (fun _ _ _ h => h) (Or.inl ⟨by rfl, ?hyr107⟩) hHeld2 ?restr107
                    case hyr107 => (intro W hSw; (try dsimp only at hSw); (try obtain ⟨hSw1, hSw2⟩ := hSw); (try obtain ⟨hSw2, hSw3⟩ := hSw2); go_simp; first | done | with_reducible rfl)
                    simp only [Act.put, List.setIfInBounds_toArray, List.set_cons_zero, List.set_cons_succ]
                    refine wpAnyH_done (by kernel_rfl) ?_ _
                    clear hHeld hHeld2 d0 d1 d2 d3 d4 d5 HQ HQ2 CF
                    go_wp2_with fail
                    refine (CP2.out w22 HQ4.out).mono ?_; rintro e w21 ⟨rfl, hb21⟩
                    have HQ3 := Lib.hid (HQ4.out.below hb21)
                    clear hb21 CP2 HQ4
                    go_wp2_with fail
                    go_roundw
                    case rel => exact ⟨j + 1, by have := HJ.out; omega, by rw [HZ.out], HQ3⟩
                    case measure => have := HJ.out; have := HZ2.out; simp [intOf]; omega
                · have hj2 : j = 13 := by omega
                  have hz12 : z = 12 := by omega
                  subst hz12
                  subst hj2
                  clear hz hj13
                  go_wp2_with fail
                  go_roundw
                  case rel => exact ⟨k + 1, pa, pp, n, ca, cp, l, by omega, by omega, by first | rfl | go_num, HQ⟩
                  case measure => simp [intOf]; omega
          · obtain ⟨m, hm⟩ : ∃ m, y.length = m := ⟨_, rfl⟩
            rw [hm] at hq hlen2 h3 h4
            have u3 : ((m : Int) == 3) = false := by rw [beq_eq_false_iff_ne]; omega
            have u4 : ((m : Int) == 1) = false := by rw [beq_eq_false_iff_ne]; omega
            clear hm h3 h4 hI
            go_wp2_with fail
            go_loopw [16] (fun av wr => ∃ j : Nat, j ≤ 13 ∧ av = .int .i64 ((j : Int) - 1) ∧ Hid (PS w wr s xb (pa) (pp) (n) (ca) (cp) (l) (l))) (fun i _ => (12 - intOf i).toNat)
            case atStart => exact ⟨0, by omega, rfl, HP⟩
            case round =>
              obtain ⟨j, hj, rfl, HQ⟩ := hrel
              clear HP
              obtain ⟨z, hz⟩ : ∃ z, (j : Int) - 1 = z := ⟨_, rfl⟩
              rw [hz]
              by_cases hj13 : j < 13
              · have u5 : decide (z < 12) = true := decide_eq_true (by omega)
                have wr1 : IntKind.i64.wrap (z + 1) = z + 1 := by rw [IntKind.wrap_i64]; omega
                have HZ := Lib.hid (show ((j + 1 : Nat) : Int) - 1 = z + 1 by omega)
                have HZ2 := Lib.hid (show z = (j : Int) - 1 by omega)
                have HJ := Lib.hid hj13
                have d0 := HQ.out.x.cell 0 _ rfl
                have d1 := HQ.out.x.cell 1 _ rfl
                have CF := Lib.hid (fun W (hW : PS w W s xb (pa) (pp) (n) (ca) (cp) (l) (l)) => rfind_any (pa) (pp) (n) (n) (ca) (cp) (l) z W hW.len hW.a)
                have CP2 := Lib.hid (fun W (hW : PS w W s xb (pa) (pp) (n) (ca) (cp) (l) (l)) => port_any _ s (l) z W hW.sw)
                clear hz hj13
                rcases idx_cases (l) z with ⟨g1, g2⟩ | ⟨k2, x, g1, g2, g3⟩
                · rw [g1] at CF
                  rw [g2] at CP2
                  clear g1 g2
                  go_wp2_with fail
                  refine (CF.out wr HQ.out).mono ?_; rintro e w20 ⟨rfl, hb20⟩
                  have HQ2 := Lib.hid (HQ.out.below hb20)
                  clear hb20 CF HQ
                  go_wp2_with fail
                  refine (CP2.out w20 HQ2.out).mono ?_; rintro e w21 ⟨rfl, hb21⟩
                  have HQ3 := Lib.hid (HQ2.out.below hb21)
                  clear hb21 CP2 HQ2
                  go_wp2_with fail
                  go_roundw
                  case rel => exact ⟨j + 1, by have := HJ.out; omega, by rw [HZ.out], HQ3⟩
                  case measure => have := HJ.out; have := HZ2.out; simp [intOf]; omega
                · rw [g1] at CF
                  rw [g3] at CP2
                  have u6 : decide ((k2 : Int) ≥ 0) = true := decide_eq_true (by omega)
                  have hk2 := lt_of_at g2
                  have hlen := HQ.out.len
                  rw [← hlen] at hk2
                  have hk2z : (k2 : Int) < ((n : Nat) : Int) := by omega
                  obtain ⟨b3, o3, e3, hcc⟩ := Drr.ints_both HQ.out.p (by rw [List.length_map]; omega)
                  have HCC := Lib.hid (fun W hW => (hcc W hW k2 (by rw [List.length_map]; omega)).trans (by rw [snd_at g2]))
                  obtain ⟨x1, x2⟩ := x
                  simp only at HCC CP2
                  subst e3
                  clear g1 g2 g3 hcc hlen
                  go_wp2_with fail
                  refine (CF.out wr HQ.out).mono ?_; rintro e w20 ⟨rfl, hb20⟩
                  have HQ2 := Lib.hid (HQ.out.below hb20)
                  have HB20 := Lib.hid hb20
                  clear hb20
                  have d0 := HQ2.out.x.cell 0 _ rfl
                  have d1 := HQ2.out.x.cell 1 _ rfl
                  have d2 := HCC.out w20 HB20.out
                  go_wp2_with fail
                  refine wp_region_held_drew (S := (fun W' => W'.cell? ⟨xb, 0, none⟩ = some (.slice pa (n) (ca)) ∧ W'.cell? ⟨xb, 1, none⟩ = some (.slice (some ⟨b3, o3, none⟩) (n) (cp)) ∧ W'.cell? ⟨b3, o3 + k2, none⟩ = some (.int .i64 x2))) (by kernel_rfl) (⟨d0, d1, d2⟩) (fun hHeld => ?_)
                  refine wpAnyH_take (i := 0) (oi := ⟨some 141, _, _, _, _, _⟩) (v := ?vr10) rfl (by kernel_rfl) (by kernel_rfl) (by kernel_rfl) (fun _ _ _ h => h) (Or.inl ⟨by rfl, ?hyr10⟩) hHeld ?restr10
                  case hyr10 => (intro W hSw; (try dsimp only at hSw); (try obtain ⟨hSw1, hSw2⟩ := hSw); (try obtain ⟨hSw2, hSw3⟩ := hSw2); go_simp; first | done | with_reducible rfl)
                  simp only [Act.put, List.setIfInBounds_toArray, List.set_cons_zero, List.set_cons_succ]
                  refine wpAnyH_take (i := 1) (oi := ⟨some 142, _, _, _, _, _⟩) (v := ?vr11) rfl (by kernel_rfl) (by kernel_rfl) (by kernel_rfl) (fun _ _ _ h => h) (Or.inl ⟨by rfl, ?hyr11⟩) hHeld ?restr11
                  case hyr11 => (intro W hSw; (try dsimp only at hSw); (try obtain ⟨hSw1, hSw2⟩ := hSw); (try obtain ⟨hSw2, hSw3⟩ := hSw2); go_simp; first | done | with_reducible rfl)
                  simp only [Act.put, List.setIfInBounds_toArray, List.set_cons_zero, List.set_cons_succ]
                  refine wpAnyH_take (i := 2) (oi := ⟨some 143, _, _, _, _, _⟩) (v := ?vr12) rfl (by kernel_rfl) (by kernel_rfl) (by kernel_rfl) (fun _ _ _ h => h) (Or.inl ⟨by rfl, ?hyr12⟩) hHeld ?restr12
                  case hyr12 => (intro W hSw; (try dsimp only at hSw); (try obtain ⟨hSw1, hSw2⟩ := hSw); (try obtain ⟨hSw2, hSw3⟩ := hSw2); go_simp; first | done | with_reducible rfl)
                  simp only [Act.put, List.setIfInBounds_toArray, List.set_cons_zero, List.set_cons_succ]
                  refine wpAnyH_take (i := 3) (oi := ⟨some 144, _, _, _, _, _⟩) (v := ?vr13) rfl (by kernel_rfl) (by kernel_rfl) (by kernel_rfl) (fun _ _ _ h => h) (Or.inl ⟨by rfl, ?hyr13⟩) hHeld ?restr13
                  case hyr13 => (intro W hSw; (try dsimp only at hSw); (try obtain ⟨hSw1, hSw2⟩ := hSw); (try obtain ⟨hSw2, hSw3⟩ := hSw2); go_simp; first | done | with_reducible rfl)
                  simp only [Act.put, List.setIfInBounds_toArray, List.set_cons_zero, List.set_cons_succ]
                  refine wpAnyH_ready (rs := [4]) (by kernel_rfl) (by simp) ?_
                  refine AllReadyH.cons (o := ⟨some 145, _, _, _, _, _⟩) rfl (fun KK hK => ?_) AllReadyH.nil
                  go_simp
                  refine (CF.out w20.drew (HQ2.out.below ⟨rfl, rfl, rfl, Nat.le_refl _, fun _ _ => rfl⟩)).mono ?_; rintro e w22 ⟨rfl, hb22⟩
                  have hb23 : Below w20.heap.size w20 w22 := ⟨hb22.os, hb22.tape, hb22.output, hb22.size, hb22.block⟩
                  have HQ4 := Lib.hid (HQ2.out.below hb23)
                  have d3 := HQ4.out.x.cell 0 _ rfl
                  have d4 := HQ4.out.x.cell 1 _ rfl
                  have d5 := HCC.out w22 (bcall HB20.out hb23)
                  clear hb22 hb23
                  go_wp2_with fail
                  refine hK.out _ _ (⟨d3, d4, d5⟩) (fun hHeld2 => ?_)
                  clear hK KK
                  try simp only [Act.put, List.setIfInBounds_toArray, List.set_cons_zero, List.set_cons_succ]
                  refine wpAnyH_take (i := 5) (oi := ⟨some 146, _, _, _, _, _⟩) (v := ?vr15) rfl (by kernel_rfl) (by kernel_rfl) (by kernel_rfl) (fun _ _ _ h => h) (Or.inl ⟨by rfl, ?hyr15⟩) hHeld2 ?restr15
                  case hyr15 => (intro W hSw; (try dsimp only at hSw); (try obtain ⟨hSw1, hSw2⟩ := hSw); (try obtain ⟨hSw2, hSw3⟩ := hSw2); go_simp; first | done | with_reducible rfl)
                  simp only [Act.put, List.setIfInBounds_toArray, List.set_cons_zero, List.set_cons_succ]
                  refine wpAnyH_take (i := 6) (oi := ⟨some 147, _, _, _, _, _⟩) (v := ?vr16) rfl (by kernel_rfl) (by kernel_rfl) (by kernel_rfl) (fun _ _ _ h => h) (Or.inl ⟨by rfl, ?hyr16⟩) hHeld2 ?restr16
                  case hyr16 => (intro W hSw; (try dsimp only at hSw); (try obtain ⟨hSw1, hSw2⟩ := hSw); (try obtain ⟨hSw2, hSw3⟩ := hSw2); go_simp; first | done | with_reducible rfl)
                  simp only [Act.put, List.setIfInBounds_toArray, List.set_cons_zero, List.set_cons_succ]
                  refine wpAnyH_take (i := 7) (oi := ⟨some 17, _, _, _, _, _⟩) (v := ?vr17) rfl (by kernel_rfl) (by kernel_rfl) (by kernel_rfl) (fun _ _ _ h => h) (Or.inl ⟨by rfl, ?hyr17⟩) hHeld2 ?restr17
                  case hyr17 => (intro W hSw; (try dsimp only at hSw); (try obtain ⟨hSw1, hSw2⟩ := hSw); (try obtain ⟨hSw2, hSw3⟩ := hSw2); go_simp; first | done | with_reducible rfl)
                  simp only [Act.put, List.setIfInBounds_toArray, List.set_cons_zero, List.set_cons_succ]
                  refine wpAnyH_done (by kernel_rfl) ?_ _
                  clear hHeld hHeld2 d0 d1 d2 d3 d4 d5 HQ HQ2 CF
                  go_wp2_with fail
                  refine (CP2.out w22 HQ4.out).mono ?_; rintro e w21 ⟨rfl, hb21⟩
                  have HQ3 := Lib.hid (HQ4.out.below hb21)
                  clear hb21 CP2 HQ4
                  go_wp2_with fail
                  go_roundw
                  case rel => exact ⟨j + 1, by have := HJ.out; omega, by rw [HZ.out], HQ3⟩
                  case measure => have := HJ.out; have := HZ2.out; simp [intOf]; omega
              · have hj2 : j = 13 := by omega
                have hz12 : z = 12 := by omega
                subst hz12
                subst hj2
                clear hz hj13
                go_wp2_with fail
                go_roundw
                case rel => exact ⟨k + 1, pa, pp, n, ca, cp, l, by omega, by omega, by first | rfl | go_num, HQ⟩
                case measure => simp [intOf]; omega
      · have u2 : decide ((k : Int) < 60) = false := decide_eq_false (by omega)
        go_wp2_with fail
        go_ret
        exact ⟨rfl, HP.out.bel⟩
    · have u1 : decide ((k : Int) < (n0 : Int)) = false := decide_eq_false (by omega)
      go_wp2_with fail
      go_ret
      exact ⟨rfl, HP.out.bel⟩

theorem reads : Tryd.f4.params.toList.all (fun t => Tryd.prog.readableRec t && decide (t < Tryd.prog.types.size)) = true := by kernel_rfl
theorem et : Tryd.prog.globalNamed "errors.errorType" = some 0 := by kernel_rfl
theorem rt : (Tryd.prog.cutTypes.find? (·.1 == "internal/reflectlite.rtype")).map (·.2) = some 74 := by kernel_rfl
theorem oneRow : ((List.range Tryd.prog.types.size).filter fun t => Tryd.prog.rowNamed t [101, 114, 114, 111, 114]) = [29] := by kernel_rfl

theorem handle_of_laid {W : World} (h : laidMetH Tryd.prog Rows.learnPlaysRow.laid W) : Handle W := by
  have h' : laidMet Tryd.prog [] W ∧ handlesMet Tryd.prog Rows.learnPlaysRow.laid W := h
  obtain ⟨name, u, ty, e1, e2, e3, e4, e5⟩ := h'.2 _ (List.mem_singleton.2 rfl)
  have en : name = [101, 114, 114, 111, 114] := (Option.some.inj e1).symm
  subst en
  obtain rfl := Option.some.inj (rt.symm.trans e2)
  have hm : ty ∈ (List.range Tryd.prog.types.size).filter fun t => Tryd.prog.rowNamed t [101, 114, 114, 111, 114] := List.mem_filter.2 ⟨List.mem_range.2 e3, e4⟩
  rw [oneRow] at hm
  obtain rfl := List.mem_singleton.1 hm
  have hh : typeHandle Tryd.prog 29 = .pointer (some ⟨1, 29, none⟩) := by kernel_rfl
  rw [hh] at e5
  have e6 := World.var?_cell et e5 0
  unfold Handle
  simpa using e6

noncomputable def laidWorld (os : Os) : World :=
  { World.holding Tryd.prog os ⟨#[], #[], []⟩ with heap := (World.holding Tryd.prog os ⟨#[], #[], []⟩).heap.modify 0 fun
      | .cells _ t frozen => .cells #[.iface 74 (.agg #[.pointer (some ⟨1, 29, none⟩)])] t frozen
      | o => o }
theorem laid_met (os : Os) : laidMetH Tryd.prog Rows.learnPlaysRow.laid ((laidWorld os).forCall (fun _ _ => 0) ⟨#[], #[.slice none 0 0], []⟩).memory :=
  laidMetH_of_parts (laidMet_nil _ _) (by kernel_rfl)
theorem reads_wit (os : Os) {H : Type} (enc : TypeId × Value → H) : ∃ places, DataW.whole enc Tryd.prog ((laidWorld os).forCall (fun _ _ => 0) ⟨#[], #[.slice none 0 0], []⟩).memory Tryd.f4.params.toList Rows.learnPlaysSpec.vars false (#[.slice none 0 0] : Array Value).toList 8 = some ([.nil], [], places) :=
  ⟨[], by kernel_rfl⟩

theorem contract (H : Type) (enc : TypeId × Value → H) (W : World) (base : Nat) (args : Array Value) (ds gs : List (DataW H)) (before : List MemPlace)
    (hval : ∀ (j : Nat) t v, Tryd.f4.params[j]? = some t → args[j]? = some v → Value.okWide Tryd.prog W .any base t v)
    (hW : DataW.Whole enc Tryd.prog Tryd.f4.params.toList Rows.learnPlaysSpec.vars false W args.toList ds gs before) (hL : laidMetH Tryd.prog Rows.learnPlaysRow.laid W) :
    Calls Tryd.prog 4 args W fun e W' => ∃ v, e = .returned v ∧ Rows.learnPlaysSpec.post enc Tryd.prog Tryd.f4 false true false false W args v W' := by
  have hW' := hW
  have hg := handle_of_laid hL
  obtain ⟨p, q, hA0, hV, rfl, hfz, hnd⟩ := hW
  have hA : DataW.TrodAll enc Tryd.prog W 0 (fun _ => true) true Tryd.f4.params.toList args.toList ds p := hA0
  have hlt := hA.lt
  rw [Tryd.params4] at hA hval
  obtain ⟨v0, vs0, d0, ds0, p0, q0, hargs, rfl, rfl, h0, r0⟩ := trodAll_cons hA
  obtain ⟨hvsn, rfl, rfl⟩ := trodAll_nil r0
  simp only [hvsn] at hargs
  obtain rfl : args = #[v0] := by cases args; simp_all
  obtain ⟨p0a, cap0, l0, rfl, i0, e0⟩ := open_rows Tryd.underlying22 Tryd.underlying23 Tryd.underlying3 (by kernel_rfl) (by kernel_rfl) (hval 0 22 v0 rfl rfl) h0 (fun x hx => hlt x (by simp [hx]))
  obtain ⟨rfl, rfl⟩ := trodVars_none hV
  clear hA0
  exact law_post 4 laid reads rfl Tryd.underlying4 rfl hW' ⟨rfl, rfl, rfl⟩ (core _ _ _ l0 W hg rfl i0)

set_option maxRecDepth 100000 in
theorem lifted (os : Os) (started : os.Started) (H : Type) (enc : TypeId × Value → H) (F : Stop.Interp) :
    ReturnsInHanded {} Tryd.checked os 4 .any ((OpenSpec.ofChange Rows.learnPlaysSpec).preRow enc Tryd.prog Tryd.f4 Rows.learnPlaysRow.domain false Rows.learnPlaysRow.laid) (((OpenSpec.ofChange Rows.learnPlaysSpec).at F).post enc Tryd.prog Tryd.f4 false true false false) := by
  obtain ⟨places, hx⟩ := reads_wit os enc
  refine returnsInHanded_of_row (C := Tryd.checked) (s := (OpenSpec.ofChange Rows.learnPlaysSpec)) own started (by kernel_rfl) Tryd.func4
    (witness_row_at (enc := enc) (C := Tryd.checked) false (laidWorld os) #[.slice none 0 0] rfl (by kernel_rfl) (by kernel_rfl) (by kernel_rfl)
      (OpenSpec.preRow_of_cond 8 hx (by kernel_rfl) (fun k hk => by cases hk) (by kernel_rfl) (laid_met os))) ?_
  intro W base args ds gs before hval hW _ hcond _ hL _ _
  exact contract H enc W base args ds gs before hval hW hL

theorem said : Rows.LearnPlaysSaid :=
  OpenClaim.holds_of_cond 4 Tryd.f4 rfl rfl rfl rfl rfl rfl rfl ⟨rfl, rfl, rfl, rfl, rfl⟩ rfl rfl rfl rfl rfl (by kernel_rfl) Tryd.func4 (by kernel_rfl)
    (of_decide_eq_true (by kernel_rfl)) (by unfold Func.isWrapper; first | (rw [if_pos (by decide +kernel)]; kernel_rfl) | (rw [if_neg (by decide +kernel)]; exact ⟨rfl, rfl⟩))
    (fun os started H enc _ F => by rw [OpenClaim.pre_eq_preRow]; exact lifted os started H enc F)

theorem plain (f : FuncId) (fn : Func) (hf : Tryd.pinned.checked.prog.funcNamed Rows.learnPlaysRow.func = some f) (hfn : Tryd.pinned.checked.prog.funcs[f]? = some fn) :
    true = Tryd.pinned.checked.prog.looks [] ∧ ∀ (j : Nat) t, fn.params[j]? = some t → Tryd.pinned.checked.prog.wantsStandIn t = false := by
  obtain rfl : f = 4 := Option.some.inj ((show Tryd.prog.funcNamed Rows.learnPlaysRow.func = some 4 by kernel_rfl).symm.trans hf) |>.symm
  obtain rfl : fn = Tryd.f4 := (Option.some.inj (Tryd.func4.symm.trans hfn)).symm
  refine ⟨by kernel_rfl, fun j t ht => ?_⟩
  have hall : Tryd.f4.params.toList.all (fun t => !Tryd.prog.wantsStandIn t) = true := by kernel_rfl
  have hm : t ∈ Tryd.f4.params.toList := by simpa using Array.mem_of_getElem? ht
  have := List.all_eq_true.1 hall t hm
  show Tryd.prog.wantsStandIn t = false
  simpa using this

theorem proved : Rows.LearnPlaysCardSaid :=
  Claim7.holds_tied_plain_at .later [] _ _ _ _ said (fun _ h => by cases h) (by kernel_rfl) (fun _ h => by cases h) learnPlays_row_tie rfl ⟨rfl, rfl⟩ (by kernel_rfl) rfl plain (by kernel_rfl)
end Go.Proofs.YtbgbmchpikdgoaaDoor.LearnPlaysL
