/- NatPlays: of any table, and anything that is done with it, what is told, which ports are lent and to whom one is, is as specified: for every input, the row's handle laid as the card says. -/
import Derived.Test.YtlojehakifagbaaDoorCards
import Derived.Test.YtlojehakifagbaaDoorTie
import Derived.Deep.DeepHandedRow
import Derived.Lib.LaidTab
import Derived.LaidHandle
import Derived.SevenTiedAt
import Derived.Test.YtlojehakifagbaaDoorNatPair
import Derived.Test.YtlojehakifagbaaDoorNatLent
import Derived.Test.YtlojehakifagbaaDoorRiseNil
import Derived.Test.YtlojehakifagbaaDoorRowsAt
import Derived.Test.YtlojehakifagbaaDoorSame
import Derived.Test.YtlojehakifagbaaDoorErrSame
import Derived.Test.YtlojehakifagbaaDoorIn4
import Derived.BigQuiet
import Derived.StillTailTactics
import Derived.Deep.RegionHeld3
import Derived.Deep.RegionWith
import Derived.OrdersHeld
namespace Go.Proofs.YtlojehakifagbaaDoor.NatPlaysL
open Go.ChangeShapes Go.WideShapes Go.ChangeAt Go.RowKit Go.Proofs.YtlojehakifagbaaDoor.Kit Go.Proofs.YtlojehakifagbaaDoor.App Go.Proofs.YtlojehakifagbaaDoor.Cells Go.Proofs.YtlojehakifagbaaDoor.Err Go.Proofs.YtlojehakifagbaaDoor.MapG Go.Proofs.YtlojehakifagbaaDoor.As Go.Proofs.YtlojehakifagbaaDoor.Nat_
set_option linter.unusedVariables false
set_option maxRecDepth 20000
set_option maxHeartbeats 8000000
abbrev Law (low many : Int) (p : Option Addr) (n0 cap : Nat) (ask : Int) (w : World) : Prop := Calls Tryd.prog 6 #[.int .i64 low, .int .i64 many, .slice p n0 cap, .int .i64 ask] w fun e w' => e = .returned (.bool true) ∧ Below w.heap.size w w'
theorem law_bad (low many : Int) (p : Option Addr) (n0 cap : Nat) (ask : Int) (w : World) (hg : Handle w) (h : ¬ okN low many) : Law low many p n0 cap ask w := by
  have NB := Lib.hid (fun W => new_bad low many W h)
  have E1 := Lib.hid (fun W (hW : Below w.heap.size w W) => err_same 1 W (hg.below hW))
  rw [er_1] at NB E1
  unfold Law
  by_cases h1 : num low
  · have I1 := Lib.hid (fun W => Ring.in_any low 0 65535 W true (in_true h1))
    by_cases h2 : 1 ≤ many ∧ many ≤ 30
    · have I2 := Lib.hid (fun W => Ring.in_any many 1 30 W true (in_true h2))
      have u1 : IntKind.i64.wrap (65536 - many) = 65536 - many := wrap_in (by omega)
      have u2 : decide (low > 65536 - many) = true := decide_eq_true (by have h3 : ¬ low ≤ 65536 - many := fun h3 => h ⟨h1, h2.1, h2.2, h3⟩; omega)
      have u3 : decide (65536 - many < low) = true := u2
      clear h h1 h2
      go_enter Tryd.func6, Tryd.ntmps6
      go_wp2_with fail
      refine (NB.out _).mono ?_; rintro e w2 ⟨rfl, rfl⟩
      go_wp2_with fail
      refine (I1.out _).mono ?_; rintro e w3 ⟨rfl, rfl⟩
      go_wp2_with fail
      refine (I2.out _).mono ?_; rintro e w3 ⟨rfl, rfl⟩
      go_wp2_with fail
      refine (E1.out _ (brefl _)).mono ?_; rintro e w4 ⟨rfl, hb4⟩
      go_wp2_with fail
      go_ret
      exact ⟨rfl, hb4⟩
    · have I2 := Lib.hid (fun W => Ring.in_any many 1 30 W false (in_false h2))
      clear h h1 h2
      go_enter Tryd.func6, Tryd.ntmps6
      go_wp2_with fail
      refine (NB.out _).mono ?_; rintro e w2 ⟨rfl, rfl⟩
      go_wp2_with fail
      refine (I1.out _).mono ?_; rintro e w3 ⟨rfl, rfl⟩
      go_wp2_with fail
      refine (I2.out _).mono ?_; rintro e w3 ⟨rfl, rfl⟩
      go_wp2_with fail
      refine (E1.out _ (brefl _)).mono ?_; rintro e w4 ⟨rfl, hb4⟩
      go_wp2_with fail
      go_ret
      exact ⟨rfl, hb4⟩
  · have I1 := Lib.hid (fun W => Ring.in_any low 0 65535 W false (in_false h1))
    clear h h1
    go_enter Tryd.func6, Tryd.ntmps6
    go_wp2_with fail
    refine (NB.out _).mono ?_; rintro e w2 ⟨rfl, rfl⟩
    go_wp2_with fail
    refine (I1.out _).mono ?_; rintro e w3 ⟨rfl, rfl⟩
    go_wp2_with fail
    refine (E1.out _ (brefl _)).mono ?_; rintro e w4 ⟨rfl, hb4⟩
    go_wp2_with fail
    go_ret
    exact ⟨rfl, hb4⟩
theorem law_good (low many : Nat) (p : Option Addr) (n0 cap : Nat) (ls : List (List Int)) (ask : Int) (w : World) (hg : Handle w) (hm1 : 1 ≤ many) (hm2 : many ≤ 30) (hm3 : low + many ≤ 65536) (hn : n0 = ls.length) (hi : RowsI w p cap ls) (hask : (Lit.int .i64 ask).wf = true) : Law low many p n0 cap ask w := by
  have hlen := hi.len_le
  rw [← hn] at hlen
  have hgd : Tryd.prog.eqGuardType Tryd.prog.depth 24 = false := by kernel_rfl
  have hmix : Tryd.prog.follows .mixedOrders = true := by kernel_rfl
  have NG := Lib.hid (new_good low many w hm1 hm2 hm3)
  have I1 := Lib.hid (fun W => Ring.in_any (low : Int) 0 65535 W true (in_true (by omega)))
  have I2 := Lib.hid (fun W => Ring.in_any (many : Int) 1 30 W true (in_true (by omega)))
  have v1 : IntKind.i64.wrap (65536 - (many : Int)) = 65536 - (many : Int) := wrap_in (by omega)
  have v2 : decide (65536 - (many : Int) < (low : Int)) = false := decide_eq_false (by omega)
  have v3 : decide ((low : Int) > 65536 - (many : Int)) = false := v2
  have HR := Lib.hid (Drr.rows_both hi)
  have HN := Lib.hid hn
  have HASK := Lib.hid hask
  have ER := Lib.hid (fun c W (hW : Below w.heap.size w W) => err_same c W (hg.below hW))
  clear hi hn hg hask
  unfold Law
  go_enter Tryd.func6, Tryd.ntmps6
  go_wp2_with fail
  refine NG.out.mono ?_; rintro e w1 ⟨b, rfl, ht1, hb1⟩
  have HP0 := Lib.hid (PN.start ht1 hb1)
  clear ht1 hb1 NG
  go_wp2_with fail
  refine (I1.out _).mono ?_; rintro e w2 ⟨rfl, hw2⟩
  rw [hw2]
  clear hw2 w2
  go_wp2_with fail
  refine (I2.out _).mono ?_; rintro e w2 ⟨rfl, hw2⟩
  rw [hw2]
  clear hw2 w2
  go_wp2_with fail
  generalize w1.alloc (.cells #[.int .i64 (low : Int), .int .i64 (many : Int), .slice none 0 0, .slice none 0 0] 45) = w2 at HP0 ⊢
  generalize w1.heap.size = xb at HP0 ⊢
  clear I1 I2 v1 v2 v3
  go_loopw [12] (fun iv wr => ∃ (k : Nat) (pp pl : Option Addr) (n cp cl : Nat) (h : Int → Option Plc) (L : List En), k ≤ n0 ∧ k ≤ 60 ∧ iv = .int .i64 (k : Int) ∧ Hid (PN w wr b xb pp pl n cp cl k low many h h L)) (fun i _ => 60 - vN i)
  case atStart => exact ⟨0, none, none, 0, 0, 0, _, [], Nat.zero_le _, Nat.zero_le _, rfl, HP0⟩
  case round =>
    obtain ⟨k, pp, pl, n, cp, cl, h, L, hkn, hk60, rfl, HP⟩ := hrel
    clear HP0
    by_cases h1 : k < n0
    · have u1 : decide ((k : Int) < (n0 : Int)) = true := decide_eq_true (by omega)
      by_cases h2 : k < 60
      · have u2 : decide ((k : Int) < 60) = true := decide_eq_true (by omega)
        obtain ⟨b1, off, rfl, hr⟩ := HR.out (by rw [← HN.out]; omega)
        obtain ⟨q, c, hlen2, hc⟩ := hr k (by rw [← HN.out]; exact h1)
        clear hr
        generalize Drr.row ls k = y at hlen2 hc
        have hq := (hc wr HP.out.bel).1
        have hI := Lib.hid (hc w (brefl w)).2
        clear hc
        by_cases h3 : y.length = 2
        · obtain ⟨b2, o2, rfl, hcs⟩ := Drr.ints_both hI.out (by omega)
          have HCA := Lib.hid (fun W hW => hcs W hW 0 (by omega))
          have HCB := Lib.hid (fun W hW => hcs W hW 1 (by omega))
          generalize y[0]?.getD 0 = x0 at HCA
          generalize y[1]?.getD 0 = x1 at HCB
          rw [h3] at hq
          clear hcs hI h3 hlen2
          have c0 : wr.cell? ⟨b2, o2, none⟩ = some (.int .i64 x0) := HCA.out wr HP.out.bel
          have c1 : wr.cell? ⟨b2, o2 + 1, none⟩ = some (.int .i64 x1) := HCB.out wr HP.out.bel
          go_wp2_with fail
          refine wp_region_held_drew (S := (fun W' => W'.cell? ⟨b2, o2, none⟩ = some (.int .i64 x0) ∧ W'.cell? ⟨b2, o2 + 1, none⟩ = some (.int .i64 x1))) (by kernel_rfl) ⟨c0, c1⟩ (fun hHeld => ?_)
          refine wpAnyH_take (i := 0) (oi := ⟨some 70, _, _, _, _, _⟩) (v := ?vr40) rfl (by kernel_rfl) (by kernel_rfl) (by kernel_rfl) (fun _ _ _ h => h) (Or.inl ⟨by rfl, ?hyr40⟩) hHeld ?restr40
          case hyr40 => (intro W hSw; (try dsimp only at hSw); (try obtain ⟨hSw1, hSw2⟩ := hSw); (try obtain ⟨hSw2, hSw3⟩ := hSw2); (try obtain ⟨hSw3, hSw4⟩ := hSw3); (try obtain ⟨hSw4, hSw5⟩ := hSw4); go_simp; first | done | with_reducible rfl)
          simp only [Act.put, List.setIfInBounds_toArray, List.set_cons_zero, List.set_cons_succ]
          refine wpAnyH_take (i := 1) (oi := ⟨some 71, _, _, _, _, _⟩) (v := ?vr41) rfl (by kernel_rfl) (by kernel_rfl) (by kernel_rfl) (fun _ _ _ h => h) (Or.inl ⟨by rfl, ?hyr41⟩) hHeld ?restr41
          case hyr41 => (intro W hSw; (try dsimp only at hSw); (try obtain ⟨hSw1, hSw2⟩ := hSw); (try obtain ⟨hSw2, hSw3⟩ := hSw2); (try obtain ⟨hSw3, hSw4⟩ := hSw3); (try obtain ⟨hSw4, hSw5⟩ := hSw4); go_simp; first | done | with_reducible rfl)
          simp only [Act.put, List.setIfInBounds_toArray, List.set_cons_zero, List.set_cons_succ]
          refine wpAnyH_take (i := 2) (oi := ⟨some 72, _, _, _, _, _⟩) (v := ?vr42) rfl (by kernel_rfl) (by kernel_rfl) (by kernel_rfl) (fun _ _ _ h => h) (Or.inl ⟨by rfl, ?hyr42⟩) hHeld ?restr42
          case hyr42 => (intro W hSw; (try dsimp only at hSw); (try obtain ⟨hSw1, hSw2⟩ := hSw); (try obtain ⟨hSw2, hSw3⟩ := hSw2); (try obtain ⟨hSw3, hSw4⟩ := hSw3); (try obtain ⟨hSw4, hSw5⟩ := hSw4); go_simp; first | done | with_reducible rfl)
          simp only [Act.put, List.setIfInBounds_toArray, List.set_cons_zero, List.set_cons_succ]
          refine wpAnyH_take (i := 3) (oi := ⟨some 73, _, _, _, _, _⟩) (v := ?vr43) rfl (by kernel_rfl) (by kernel_rfl) (by kernel_rfl) (fun _ _ _ h => h) (Or.inl ⟨by rfl, ?hyr43⟩) hHeld ?restr43
          case hyr43 => (intro W hSw; (try dsimp only at hSw); (try obtain ⟨hSw1, hSw2⟩ := hSw); (try obtain ⟨hSw2, hSw3⟩ := hSw2); (try obtain ⟨hSw3, hSw4⟩ := hSw3); (try obtain ⟨hSw4, hSw5⟩ := hSw4); go_simp; first | done | with_reducible rfl)
          simp only [Act.put, List.setIfInBounds_toArray, List.set_cons_zero, List.set_cons_succ]
          refine wpAnyH_take (i := 4) (oi := ⟨some 74, _, _, _, _, _⟩) (v := ?vr44) rfl (by kernel_rfl) (by kernel_rfl) (by kernel_rfl) (fun _ _ _ h => h) (Or.inl ⟨by rfl, ?hyr44⟩) hHeld ?restr44
          case hyr44 => (intro W hSw; (try dsimp only at hSw); (try obtain ⟨hSw1, hSw2⟩ := hSw); (try obtain ⟨hSw2, hSw3⟩ := hSw2); (try obtain ⟨hSw3, hSw4⟩ := hSw3); (try obtain ⟨hSw4, hSw5⟩ := hSw4); go_simp; first | done | with_reducible rfl)
          simp only [Act.put, List.setIfInBounds_toArray, List.set_cons_zero, List.set_cons_succ]
          refine wpAnyH_take (i := 5) (oi := ⟨some 75, _, _, _, _, _⟩) (v := ?vr45) rfl (by kernel_rfl) (by kernel_rfl) (by kernel_rfl) (fun _ _ _ h => h) (Or.inl ⟨by rfl, ?hyr45⟩) hHeld ?restr45
          case hyr45 => (intro W hSw; (try dsimp only at hSw); (try obtain ⟨hSw1, hSw2⟩ := hSw); (try obtain ⟨hSw2, hSw3⟩ := hSw2); (try obtain ⟨hSw3, hSw4⟩ := hSw3); (try obtain ⟨hSw4, hSw5⟩ := hSw4); go_simp; first | done | with_reducible rfl)
          simp only [Act.put, List.setIfInBounds_toArray, List.set_cons_zero, List.set_cons_succ]
          refine wpAnyH_take (i := 6) (oi := ⟨some 76, _, _, _, _, _⟩) (v := ?vr46) rfl (by kernel_rfl) (by kernel_rfl) (by kernel_rfl) (fun _ _ _ h => h) (Or.inl ⟨by rfl, ?hyr46⟩) hHeld ?restr46
          case hyr46 => (intro W hSw; (try dsimp only at hSw); (try obtain ⟨hSw1, hSw2⟩ := hSw); (try obtain ⟨hSw2, hSw3⟩ := hSw2); (try obtain ⟨hSw3, hSw4⟩ := hSw3); (try obtain ⟨hSw4, hSw5⟩ := hSw4); go_simp; first | done | with_reducible rfl)
          simp only [Act.put, List.setIfInBounds_toArray, List.set_cons_zero, List.set_cons_succ]
          refine wpAnyH_ready (rs := [7]) (by kernel_rfl) (by simp) ?_
          refine AllReadyH.cons (o := ⟨some 14, _, _, _, _, _⟩) rfl (fun KK hK => ?_) AllReadyH.nil
          go_simp
          have hb5 := bdrewN (balloc (brefl wr) (.cells #[.int .i64 0, .int .i64 0] 24)) 1
          refine hK.out _ _ (⟨HCA.out _ (bcall HP.out.bel hb5), HCB.out _ (bcall HP.out.bel hb5)⟩) (fun hHeld2 => ?_)
          clear hK KK hb5
          try simp only [Act.put, List.setIfInBounds_toArray, List.set_cons_zero, List.set_cons_succ]
          refine wpAnyH_ready (rs := [8]) (by kernel_rfl) (by simp) ?_
          refine AllReadyH.cons (o := ⟨none, _, _, _, _, _⟩) rfl (fun KK2 hK2 => ?_) AllReadyH.nil
          go_simp
          have hb5 := bdrewN (balloc (brefl wr) (.cells #[.int .i64 x0, .int .i64 x1] 24)) 1
          refine hK2.out _ _ (⟨HCA.out _ (bcall HP.out.bel hb5), HCB.out _ (bcall HP.out.bel hb5)⟩) (fun hHeld3 => ?_)
          clear hK2 KK2
          try simp only [Act.put, List.setIfInBounds_toArray, List.set_cons_zero, List.set_cons_succ]
          refine wpAnyH_done (by kernel_rfl) ?_ _
          have hb5 : Below wr.heap.size wr (wr.alloc (.cells #[.int .i64 x0, .int .i64 x1] 24)).drew := hb5
          have HBX : Hid (Box (wr.alloc (.cells #[.int .i64 x0, .int .i64 x1] 24)).drew wr.heap.size ⟨x0, x1⟩) := Lib.hid ((Box.new wr ⟨x0, x1⟩ 24).drewN 1)
          have HP5 := Lib.hid (HP.out.below hb5)
          have hgx : wr.heap.size ≠ xb := by have := HP.out.x.lt; omega
          clear hHeld hHeld2 hHeld3 c0 c1 hb5 HP hq
          generalize (wr.alloc (.cells #[.int .i64 x0, .int .i64 x1] 24)).drew = w5 at HBX HP5 ⊢
          generalize wr.heap.size = g5 at HBX hgx ⊢
          have e0 := HP5.out.x.cell 0 _ rfl
          have e1 := HP5.out.x.cell 1 _ rfl
          have e2 := HP5.out.x.cell 2 _ rfl
          have e3 := HP5.out.x.cell 3 _ rfl
          have d0 := HBX.out.2.1
          have d1 := HBX.out.2.2
          have CO := Lib.hid (rout_any low many pp pl n cp cl L h x0 x1 w5 HP5.out.rl HP5.out.tb HP5.out.len HP5.out.p HP5.out.l)
          go_wp2_with fail
          refine CO.out.mono ?_; rintro e w6 ⟨pp2, n2, cp2, pl2, cl2, L2, port, cc, h2, rfl, hR, hRL, hD, hb6⟩
          have hb7 := balloc hb6 (.cells #[.int .i64 (low : Int), .int .i64 (many : Int), .slice pp2 n2 cp2, .slice pl2 n2 cl2] 45)
          have HX7 := Lib.hid (HP5.out.x.below hb7)
          have HP8 := Lib.hid (HP5.out.store hb7 (hD.below (balloc (brefl w6) _)) hRL (hR.tb HP5.out.tb))
          have HBX8 : Hid (Box (put4 (w6.alloc (.cells #[.int .i64 (low : Int), .int .i64 (many : Int), .slice pp2 n2 cp2, .slice pl2 n2 cl2] 45)) xb low many pp2 n2 cp2 pl2 cl2) g5 ⟨x0, x1⟩) := Lib.hid ((HBX.out.below hb7 HBX.out.1).put4 hgx)
          have HRO := Lib.hid hR
          clear hb6 hb7 hD hRL hR CO e0 e1 e2 e3 d0 d1 HBX
          unfold put4 at HBX8
          have e0 := HX7.out.cell 0 _ rfl
          have e1 := HX7.out.cell 1 _ rfl
          have e2 := HX7.out.cell 2 _ rfl
          have e3 := HX7.out.cell 3 _ rfl
          have f0 := HX7.out.fz 0
          have f1 := HX7.out.fz 1
          have f2 := HX7.out.fz 2
          have f3 := HX7.out.fz 3
          have d0 := HBX8.out.2.1
          have d1 := HBX8.out.2.2
          go_wp2_with fail
          generalize ((((w6.alloc (.cells #[.int .i64 (low : Int), .int .i64 (many : Int), .slice pp2 n2 cp2, .slice pl2 n2 cl2] 45)).setCell ⟨xb, 0, none⟩ (.int .i64 (low : Int))).setCell ⟨xb, 1, none⟩ (.int .i64 (many : Int))).setCell ⟨xb, 2, none⟩ (.slice pp2 n2 cp2)).setCell ⟨xb, 3, none⟩ (.slice pl2 n2 cl2) = w8 at HP8 ⊢
          clear e0 e1 e2 e3 f0 f1 f2 f3 d0 d1 HBX8 HX7 HP5
          refine (out_any _ b k low many h ⟨x0, x1⟩ w8 HP8.out.tab (by omega)).mono ?_; rintro e w9 ⟨port2, cc2, h3, rfl, hR2, ht9, hk9⟩
          obtain ⟨rfl, rfl, rfl⟩ := OutR.uniq HP8.out.tab.tb HRO.out hR2
          have HP9 := Lib.hid (HP8.out.turn ht9 hk9)
          have EC := Lib.hid (fun W hW => ER.out cc W hW)
          have u9 : (port != port) = false := by simp
          generalize er cc = ve at EC ⊢
          clear hR2 ht9 hk9 HP8 HRO
          go_wp2_with fail
          refine (EC.out w9 HP9.out.bel).mono ?_; rintro e w10 ⟨rfl, hb10⟩
          have HP := Lib.hid (HP9.out.below hb10)
          clear hb10 HP9 EC
          go_wp2_with fail
          obtain ⟨lw, hlw⟩ : ∃ l, lentL low many h2 = l := ⟨_, rfl⟩
          have CL1 := Lib.hid (fun W (hW : PN w W b xb pp2 pl2 n2 cp2 cl2 (k + 1) low many h2 h2 L2) => lent_any _ b (k + 1) low many h2 W hW.tab (by omega))
          have CR1 := Lib.hid (fun W (hW : PN w W b xb pp2 pl2 n2 cp2 cl2 (k + 1) low many h2 h2 L2) => Rising.rise_any pp2 cp2 n2 (L2.map Prod.fst) W (by rw [List.length_map]; exact hW.len) hW.p (by have := hW.rl.few hW.tb; have := hW.len; omega))
          have hsr : Rising.srt (L2.map Prod.fst) = lw := by rw [← hlw]; exact HP.out.rl.sorted HP.out.tb
          have hln : lw.length = n2 := by rw [← hlw, ← HP.out.rl.len HP.out.tb]; exact HP.out.len.symm
          rw [hsr] at CR1
          rw [hlw] at CL1
          have HLN := Lib.hid hln
          clear hlw hsr hln
          have d2 := HP.out.x.cell 2 _ rfl
          refine wp_region_held_drew (S := (fun W' => W'.cell? ⟨xb, 2, none⟩ = some (.slice pp2 n2 cp2))) (by kernel_rfl) d2 (fun hHeld => ?_)
          refine wpAnyH_take (i := 0) (oi := ⟨some 120, _, _, _, _, _⟩) (v := ?vr50) rfl (by kernel_rfl) (by kernel_rfl) (by kernel_rfl) (fun _ _ _ h => h) (Or.inl ⟨by rfl, ?hyr50⟩) hHeld ?restr50
          case hyr50 => (intro W hSw; (try dsimp only at hSw); (try obtain ⟨hSw1, hSw2⟩ := hSw); (try obtain ⟨hSw2, hSw3⟩ := hSw2); (try obtain ⟨hSw3, hSw4⟩ := hSw3); (try obtain ⟨hSw4, hSw5⟩ := hSw4); go_simp; first | done | with_reducible rfl)
          simp only [Act.put, List.setIfInBounds_toArray, List.set_cons_zero, List.set_cons_succ]
          refine wpAnyH_take (i := 2) (oi := ⟨some 122, _, _, _, _, _⟩) (v := ?vr52) rfl (by kernel_rfl) (by kernel_rfl) (by kernel_rfl) (fun _ _ _ h => h) (Or.inl ⟨by rfl, ?hyr52⟩) hHeld ?restr52
          case hyr52 => (intro W hSw; (try dsimp only at hSw); (try obtain ⟨hSw1, hSw2⟩ := hSw); (try obtain ⟨hSw2, hSw3⟩ := hSw2); (try obtain ⟨hSw3, hSw4⟩ := hSw3); (try obtain ⟨hSw4, hSw5⟩ := hSw4); go_simp; first | done | with_reducible rfl)
          simp only [Act.put, List.setIfInBounds_toArray, List.set_cons_zero, List.set_cons_succ]
          refine wpAnyH_take (i := 3) (oi := ⟨some 123, _, _, _, _, _⟩) (v := ?vr53) rfl (by kernel_rfl) (by kernel_rfl) (by kernel_rfl) (fun _ _ _ h => h) (Or.inl ⟨by rfl, ?hyr53⟩) hHeld ?restr53
          case hyr53 => (intro W hSw; (try dsimp only at hSw); (try obtain ⟨hSw1, hSw2⟩ := hSw); (try obtain ⟨hSw2, hSw3⟩ := hSw2); (try obtain ⟨hSw3, hSw4⟩ := hSw3); (try obtain ⟨hSw4, hSw5⟩ := hSw4); go_simp; first | done | with_reducible rfl)
          simp only [Act.put, List.setIfInBounds_toArray, List.set_cons_zero, List.set_cons_succ]
          refine wpAnyH_ready (rs := [1]) (by kernel_rfl) (by simp) ?_
          refine AllReadyH.cons (o := ⟨some 121, _, _, _, _, _⟩) rfl (fun KK hK => ?_) AllReadyH.nil
          go_simp
          refine (CL1.out w10.drew (show PN w w10.drew b xb pp2 pl2 n2 cp2 cl2 (k + 1) low many h2 h2 L2 from HP.out.below ⟨rfl, rfl, rfl, Nat.le_refl _, fun _ _ => rfl⟩)).mono ?_; rintro e w21 ⟨v21, rfl, ho21, hb21⟩
          obtain ⟨q21, c21, rfl, hi21, _⟩ := own_read ho21
          rw [HLN.out]
          have HI21 := Lib.hid hi21
          have HP21 := Lib.hid (((show PN w w10.drew b xb pp2 pl2 n2 cp2 cl2 (k + 1) low many h2 h2 L2 from HP.out.below ⟨rfl, rfl, rfl, Nat.le_refl _, fun _ _ => rfl⟩)).below hb21)
          have HB21 := Lib.hid hb21
          clear ho21 hi21 hb21
          go_wp2_with fail
          refine hK.out _ _ (HP21.out.x.cell 2 _ rfl) (fun hHeld2 => ?_)
          clear hK
          try simp only [Act.put, List.setIfInBounds_toArray, List.set_cons_zero, List.set_cons_succ]
          refine wpAnyH_ready (rs := [4]) (by kernel_rfl) (by simp) ?_
          refine AllReadyH.cons (o := ⟨some 124, _, _, _, _, _⟩) rfl (fun KK2 hK2 => ?_) AllReadyH.nil
          go_simp
          refine (CR1.out w21 HP21.out).mono ?_; rintro e w22 ⟨⟨q22, c22, rfl, ho22⟩, hb22⟩
          obtain ⟨q9, c9, e9, hi22, _⟩ := own_read ho22
          injection e9 with e9 e11 e10
          clear e11
          subst e9; subst e10
          have HI22 := Lib.hid hi22
          have HP22 := Lib.hid ((HP21.out).below hb22)
          have HB22 := Lib.hid hb22
          clear ho22 hi22 hb22
          go_wp2_with fail
          refine hK2.out _ _ (HP22.out.x.cell 2 _ rfl) (fun hHeld3 => ?_)
          clear hK2
          try simp only [Act.put, List.setIfInBounds_toArray, List.set_cons_zero, List.set_cons_succ]
          refine wpAnyH_ready (rs := [5]) (by kernel_rfl) (by simp) ?_
          refine AllReadyH.cons (o := ⟨some 125, _, _, _, _, _⟩) rfl (fun KK3 hK3 => ?_) AllReadyH.nil
          have IA := HI21.out.below HB22.out
          have IB := HI22.out
          go_simp
          refine (ints_any q21 q22 c21 c22 n2 n2 lw lw w22 HLN.out.symm HLN.out.symm IA IB true (by simp)).mono ?_; rintro e w23 ⟨rfl, hb23⟩
          have HP23 := Lib.hid (HP22.out.below hb23)
          clear hb23
          go_wp2_with fail
          refine hK3.out _ _ (HP23.out.x.cell 2 _ rfl) (fun hHeld4 => ?_)
          clear hK3
          try simp only [Act.put, List.setIfInBounds_toArray, List.set_cons_zero, List.set_cons_succ]
          refine wpAnyH_take (i := 6) (oi := ⟨some 126, _, _, _, _, _⟩) (v := ?vr66) rfl (by kernel_rfl) (by kernel_rfl) (by kernel_rfl) (fun _ _ _ h => h) (Or.inl ⟨by rfl, ?hyr66⟩) hHeld4 ?restr66
          case hyr66 => (intro W hSw; (try dsimp only at hSw); (try obtain ⟨hSw1, hSw2⟩ := hSw); (try obtain ⟨hSw2, hSw3⟩ := hSw2); (try obtain ⟨hSw3, hSw4⟩ := hSw3); (try obtain ⟨hSw4, hSw5⟩ := hSw4); go_simp; first | done | with_reducible rfl)
          simp only [Act.put, List.setIfInBounds_toArray, List.set_cons_zero, List.set_cons_succ]
          refine wpAnyH_done (by kernel_rfl) ?_ _
          clear hHeld hHeld2 hHeld3 hHeld4 d2 CL1 CR1 HLN HP
          go_wp2_with fail
          go_roundw
          case rel => exact ⟨k + 1, pp2, pl2, n2, cp2, cl2, h2, L2, by omega, by omega, by first | rfl | go_num, Lib.hid (HP23.out.mono (by omega))⟩
          case measure => simp [vN]; omega
        · by_cases h4 : y.length = 1
          · obtain ⟨b2, o2, rfl, hcs⟩ := Drr.ints_both hI.out (by omega)
            have HCA := Lib.hid (fun W hW => hcs W hW 0 (by omega))
            have hw0 := hI.out.2.2.1 0
            have hb2x : b2 ≠ xb := by
              obtain ⟨b', o', e', hb', _⟩ := hI.out.2.2.2 (by omega)
              injection e' with e'
              injection e' with e1 e2
              have := HP.out.lo
              omega
            generalize y[0]?.getD 0 = x0 at HCA hw0
            have HCA : Hid (∀ W, Below w.heap.size w W → W.cell? ⟨b2, o2, none⟩ = some (.int .i64 x0)) := HCA
            rw [h4] at hq
            clear hcs hI h3 h4 hlen2
            have c0 : wr.cell? ⟨b2, o2, none⟩ = some (.int .i64 x0) := HCA.out wr HP.out.bel
            have CD := Lib.hid (fun W (hW : PN w W b xb pp pl n cp cl k low many h h L) => rdrop_any low many pp pl n cp cl L h x0 W hW.rl hW.tb hW.len hW.p hW.l)
            have HT := Lib.hid (HP.out.tb.del x0)
            have HW0 := Lib.hid hw0
            clear hw0
            go_wp2_with fail
            refine wp_region_held_drew (S := (fun W' => W'.cell? ⟨xb, 0, none⟩ = some (.int .i64 (low : Int)) ∧ W'.cell? ⟨xb, 1, none⟩ = some (.int .i64 (many : Int)) ∧ W'.cell? ⟨xb, 2, none⟩ = some (.slice pp n cp) ∧ W'.cell? ⟨xb, 3, none⟩ = some (.slice pl n cl) ∧ W'.cell? ⟨b2, o2, none⟩ = some (.int .i64 x0))) (by kernel_rfl) ⟨HP.out.x.cell 0 _ rfl, HP.out.x.cell 1 _ rfl, HP.out.x.cell 2 _ rfl, HP.out.x.cell 3 _ rfl, c0⟩ (fun hHeld => ?_)
            refine wpAnyH_take (i := 0) (oi := ⟨some 104, _, _, _, _, _⟩) (v := ?vr80) rfl (by kernel_rfl) (by kernel_rfl) (by kernel_rfl) (fun _ _ _ h => h) (Or.inl ⟨by rfl, ?hyr80⟩) hHeld ?restr80
            case hyr80 => (intro W hSw; (try dsimp only at hSw); (try obtain ⟨hSw1, hSw2⟩ := hSw); (try obtain ⟨hSw2, hSw3⟩ := hSw2); (try obtain ⟨hSw3, hSw4⟩ := hSw3); (try obtain ⟨hSw4, hSw5⟩ := hSw4); go_simp; first | done | with_reducible rfl)
            simp only [Act.put, List.setIfInBounds_toArray, List.set_cons_zero, List.set_cons_succ]
            refine wpAnyH_take (i := 1) (oi := ⟨some 105, _, _, _, _, _⟩) (v := ?vr81) rfl (by kernel_rfl) (by kernel_rfl) (by kernel_rfl) (fun _ _ _ h => h) (Or.inl ⟨by rfl, ?hyr81⟩) hHeld ?restr81
            case hyr81 => (intro W hSw; (try dsimp only at hSw); (try obtain ⟨hSw1, hSw2⟩ := hSw); (try obtain ⟨hSw2, hSw3⟩ := hSw2); (try obtain ⟨hSw3, hSw4⟩ := hSw3); (try obtain ⟨hSw4, hSw5⟩ := hSw4); go_simp; first | done | with_reducible rfl)
            simp only [Act.put, List.setIfInBounds_toArray, List.set_cons_zero, List.set_cons_succ]
            refine wpAnyH_take (i := 2) (oi := ⟨some 106, _, _, _, _, _⟩) (v := ?vr82) rfl (by kernel_rfl) (by kernel_rfl) (by kernel_rfl) (fun _ _ _ h => h) (Or.inl ⟨by rfl, ?hyr82⟩) hHeld ?restr82
            case hyr82 => (intro W hSw; (try dsimp only at hSw); (try obtain ⟨hSw1, hSw2⟩ := hSw); (try obtain ⟨hSw2, hSw3⟩ := hSw2); (try obtain ⟨hSw3, hSw4⟩ := hSw3); (try obtain ⟨hSw4, hSw5⟩ := hSw4); go_simp; first | done | with_reducible rfl)
            simp only [Act.put, List.setIfInBounds_toArray, List.set_cons_zero, List.set_cons_succ]
            refine wpAnyH_take (i := 3) (oi := ⟨some 107, _, _, _, _, _⟩) (v := ?vr83) rfl (by kernel_rfl) (by kernel_rfl) (by kernel_rfl) (fun _ _ _ h => h) (Or.inl ⟨by rfl, ?hyr83⟩) hHeld ?restr83
            case hyr83 => (intro W hSw; (try dsimp only at hSw); (try obtain ⟨hSw1, hSw2⟩ := hSw); (try obtain ⟨hSw2, hSw3⟩ := hSw2); (try obtain ⟨hSw3, hSw4⟩ := hSw3); (try obtain ⟨hSw4, hSw5⟩ := hSw4); go_simp; first | done | with_reducible rfl)
            simp only [Act.put, List.setIfInBounds_toArray, List.set_cons_zero, List.set_cons_succ]
            refine wpAnyH_ready (rs := [4, 8]) (by kernel_rfl) (by simp) ?_
            refine AllReadyH.cons (o := ⟨some 108, _, _, _, _, _⟩) rfl (fun KK hK => ?_) (AllReadyH.cons (o := ⟨some 20, _, _, _, _, _⟩) rfl (fun KK hK => ?_) AllReadyH.nil)
            · go_simp
              refine (CD.out wr.drew (HP.out.below ⟨rfl, rfl, rfl, Nat.le_refl _, fun _ _ => rfl⟩)).mono ?_; rintro e w6 ⟨pp2, n2, cp2, pl2, cl2, L2, rfl, hRL, hD, hb6⟩
              have hb6 : Below wr.heap.size wr w6 := ⟨hb6.os, hb6.tape, hb6.output, hb6.size, hb6.block⟩
              have hD : Dt wr w6 pp pl pp2 n2 cp2 pl2 cl2 L2 := hD.mono (Nat.le_refl _)
              have HX6 := Lib.hid (HP.out.x.below hb6)
              have HC6 := Lib.hid (HCA.out w6 (bcall HP.out.bel hb6))
              generalize hnc : noneC h x0 = nc
              have HNC := Lib.hid hnc
              clear hnc
              go_wp2_with fail
              refine hK.out _ _ (⟨HX6.out.cell 0 _ rfl, HX6.out.cell 1 _ rfl, HX6.out.cell 2 _ rfl, HX6.out.cell 3 _ rfl, HC6.out⟩) (fun hHeld2 => ?_)
              clear hK KK
              try simp only [Act.put, List.setIfInBounds_toArray, List.set_cons_zero, List.set_cons_succ]
              refine wpAnyH_take (i := 5) (oi := ⟨some 103, _, _, _, _, _⟩) (v := ?vr95) rfl (by kernel_rfl) (by kernel_rfl) (by kernel_rfl) (fun _ _ _ h => h) (Or.inl ⟨by rfl, ?hyr95⟩) hHeld2 ?restr95
              case hyr95 => (intro W hSw; (try dsimp only at hSw); (try obtain ⟨hSw1, hSw2⟩ := hSw); (try obtain ⟨hSw2, hSw3⟩ := hSw2); (try obtain ⟨hSw3, hSw4⟩ := hSw3); (try obtain ⟨hSw4, hSw5⟩ := hSw4); go_simp; first | done | with_reducible rfl)
              simp only [Act.put, List.setIfInBounds_toArray, List.set_cons_zero, List.set_cons_succ]
              refine wpAnyH_take (i := 6) (oi := ⟨some 109, _, _, _, _, _⟩) (v := ?vr96) rfl (by kernel_rfl) (by kernel_rfl) (by kernel_rfl) (fun _ _ _ h => h) (Or.inl ⟨by rfl, ?hyr96⟩) hHeld2 ?restr96
              case hyr96 => (intro W hSw; (try dsimp only at hSw); (try obtain ⟨hSw1, hSw2⟩ := hSw); (try obtain ⟨hSw2, hSw3⟩ := hSw2); (try obtain ⟨hSw3, hSw4⟩ := hSw3); (try obtain ⟨hSw4, hSw5⟩ := hSw4); go_simp; first | done | with_reducible rfl)
              simp only [Act.put, List.setIfInBounds_toArray, List.set_cons_zero, List.set_cons_succ]
              refine wpAnyH_take (i := 7) (oi := ⟨some 110, _, _, _, _, _⟩) (v := ?vr97) rfl (by kernel_rfl) (by kernel_rfl) (by kernel_rfl) (fun _ _ _ h => h) (Or.inl ⟨by rfl, ?hyr97⟩) hHeld2 ?restr97
              case hyr97 => (intro W hSw; (try dsimp only at hSw); (try obtain ⟨hSw1, hSw2⟩ := hSw); (try obtain ⟨hSw2, hSw3⟩ := hSw2); (try obtain ⟨hSw3, hSw4⟩ := hSw3); (try obtain ⟨hSw4, hSw5⟩ := hSw4); go_simp; first | done | with_reducible rfl)
              simp only [Act.put, List.setIfInBounds_toArray, List.set_cons_zero, List.set_cons_succ]
              refine wpAnyH_ready (rs := [8]) (by kernel_rfl) (by simp) ?_
              refine AllReadyH.cons (o := ⟨some 20, _, _, _, _, _⟩) rfl (fun KK2 hK2 => ?_) AllReadyH.nil
              go_simp
              have hb8 := balloc hb6 (.cells #[.int .i64 0, .int .i64 0, .slice none 0 0, .slice none 0 0] 45)
              refine hK2.out _ _ (⟨(HX6.out.alloc _).cell 0 _ rfl, (HX6.out.alloc _).cell 1 _ rfl, (HX6.out.alloc _).cell 2 _ rfl, (HX6.out.alloc _).cell 3 _ rfl, HCA.out _ (bcall HP.out.bel hb8)⟩) (fun hHeld3 => ?_)
              clear hK2 KK2 hb8
              try simp only [Act.put, List.setIfInBounds_toArray, List.set_cons_zero, List.set_cons_succ]
              refine wpAnyH_ready (rs := [9]) (by kernel_rfl) (by simp) ?_
              refine AllReadyH.cons (o := ⟨none, _, _, _, _, _⟩) rfl (fun KK3 hK3 => ?_) AllReadyH.nil
              have HZ9 := Lib.hid (Blk.new w6 45 [.int .i64 (low : Int), .int .i64 (many : Int), .slice pp2 n2 cp2, .slice pl2 n2 cl2])
              have HB9 := Lib.hid (balloc hb6 (.cells #[.int .i64 (low : Int), .int .i64 (many : Int), .slice pp2 n2 cp2, .slice pl2 n2 cl2] 45))
              have HD9 := Lib.hid (hD.below (balloc (brefl w6) (.cells #[.int .i64 (low : Int), .int .i64 (many : Int), .slice pp2 n2 cp2, .slice pl2 n2 cl2] 45)))
              have HX9 := Lib.hid (HX6.out.alloc (.cells #[.int .i64 (low : Int), .int .i64 (many : Int), .slice pp2 n2 cp2, .slice pl2 n2 cl2] 45))
              have HC9 := Lib.hid (HCA.out _ (bcall HP.out.bel HB9.out))
              clear hb6 hD
              go_simp
              refine hK3.out _ _ (⟨HX9.out.cell 0 _ rfl, HX9.out.cell 1 _ rfl, HX9.out.cell 2 _ rfl, HX9.out.cell 3 _ rfl, HC9.out⟩) (fun hHeld4 => ?_)
              clear hK3 KK3
              try simp only [Act.put, List.setIfInBounds_toArray, List.set_cons_zero, List.set_cons_succ]
              refine wpAnyH_take (i := 10) (oi := ⟨some 21, _, _, _, _, _⟩) (v := ?vr1010) rfl (by kernel_rfl) (by kernel_rfl) (by kernel_rfl) (fun _ _ _ h => h) (Or.inl ⟨by rfl, ?hyr1010⟩) hHeld4 ?restr1010
              case hyr1010 => (intro W hSw; (try dsimp only at hSw); (try obtain ⟨hSw1, hSw2⟩ := hSw); (try obtain ⟨hSw2, hSw3⟩ := hSw2); (try obtain ⟨hSw3, hSw4⟩ := hSw3); (try obtain ⟨hSw4, hSw5⟩ := hSw4); go_simp; first | done | with_reducible rfl)
              simp only [Act.put, List.setIfInBounds_toArray, List.set_cons_zero, List.set_cons_succ]
              refine wpAnyH_done (by kernel_rfl) ?_ _
              generalize w6.heap.size = g9 at HZ9 ⊢
              generalize w6.alloc (.cells #[.int .i64 (low : Int), .int .i64 (many : Int), .slice pp2 n2 cp2, .slice pl2 n2 cl2] 45) = w9 at HZ9 HB9 HD9 HX9 ⊢
              clear HC9 HX6 HC6
              clear hHeld hHeld2 hHeld3 hHeld4 c0 CD hq
              have HP10 := Lib.hid (HP.out.store HB9.out HD9.out hRL HT.out)
              have e0 := HX9.out.cell 0 _ rfl
              have e1 := HX9.out.cell 1 _ rfl
              have e2 := HX9.out.cell 2 _ rfl
              have e3 := HX9.out.cell 3 _ rfl
              have f0 := HX9.out.fz 0
              have f1 := HX9.out.fz 1
              have f2 := HX9.out.fz 2
              have f3 := HX9.out.fz 3
              have z0 := HZ9.out.cell 0 _ rfl
              have z1 := HZ9.out.cell 1 _ rfl
              have z2 := HZ9.out.cell 2 _ rfl
              have z3 := HZ9.out.cell 3 _ rfl
              have c10 := HCA.out _ HP10.out.bel
              have c9 := HCA.out w9 (HP.out.bel.trans (HB9.out.mono HP.out.bel.size))
              have hb2y : xb ≠ b2 := fun e => hb2x e.symm
              clear HX9 HZ9 HB9 HD9 HP hRL
              go_wp2_with fail
              generalize (((w9.setCell ⟨xb, 0, none⟩ (.int .i64 (low : Int))).setCell ⟨xb, 1, none⟩ (.int .i64 (many : Int))).setCell ⟨xb, 2, none⟩ (.slice pp2 n2 cp2)).setCell ⟨xb, 3, none⟩ (.slice pl2 n2 cl2) = w10 at HP10 c10 ⊢
              clear e0 e1 e2 e3 f0 f1 f2 f3 z0 z1 z2 z3
              refine (drop_any _ b k low many h x0 w10 HP10.out.tab HW0.out).mono ?_; rintro e w11 ⟨rfl, ht11, hk11⟩
              rw [HNC.out]
              have HP11 := Lib.hid (HP10.out.turn ht11 hk11)
              have EC := Lib.hid (fun W hW => ER.out nc W hW)
              generalize er nc = ve at EC ⊢
              clear ht11 hk11 HP10 c10 HT
              generalize hh2 : upd h x0 none = h2 at HP11
              clear hh2
              go_wp2_with fail
              refine (EC.out w11 HP11.out.bel).mono ?_; rintro e w12 ⟨rfl, hb12⟩
              have HP := Lib.hid (HP11.out.below hb12)
              clear hb12 HP11 EC
              go_wp2_with fail
              obtain ⟨lw, hlw⟩ : ∃ l, lentL low many h2 = l := ⟨_, rfl⟩
              have CL1 := Lib.hid (fun W (hW : PN w W b xb pp2 pl2 n2 cp2 cl2 k low many h2 h2 L2) => lent_any _ b k low many h2 W hW.tab (by omega))
              have CR1 := Lib.hid (fun W (hW : PN w W b xb pp2 pl2 n2 cp2 cl2 k low many h2 h2 L2) => Rising.rise_any pp2 cp2 n2 (L2.map Prod.fst) W (by rw [List.length_map]; exact hW.len) hW.p (by have := hW.rl.few hW.tb; have := hW.len; omega))
              have hsr : Rising.srt (L2.map Prod.fst) = lw := by rw [← hlw]; exact HP.out.rl.sorted HP.out.tb
              have hln : lw.length = n2 := by rw [← hlw, ← HP.out.rl.len HP.out.tb]; exact HP.out.len.symm
              rw [hsr] at CR1
              rw [hlw] at CL1
              have HLN := Lib.hid hln
              clear hlw hsr hln
              have d2 := HP.out.x.cell 2 _ rfl
              refine wp_region_held_drew (S := (fun W' => W'.cell? ⟨xb, 2, none⟩ = some (.slice pp2 n2 cp2))) (by kernel_rfl) d2 (fun hHeld => ?_)
              refine wpAnyH_take (i := 0) (oi := ⟨some 120, _, _, _, _, _⟩) (v := ?vr130) rfl (by kernel_rfl) (by kernel_rfl) (by kernel_rfl) (fun _ _ _ h => h) (Or.inl ⟨by rfl, ?hyr130⟩) hHeld ?restr130
              case hyr130 => (intro W hSw; (try dsimp only at hSw); (try obtain ⟨hSw1, hSw2⟩ := hSw); (try obtain ⟨hSw2, hSw3⟩ := hSw2); (try obtain ⟨hSw3, hSw4⟩ := hSw3); (try obtain ⟨hSw4, hSw5⟩ := hSw4); go_simp; first | done | with_reducible rfl)
              simp only [Act.put, List.setIfInBounds_toArray, List.set_cons_zero, List.set_cons_succ]
              refine wpAnyH_take (i := 2) (oi := ⟨some 122, _, _, _, _, _⟩) (v := ?vr132) rfl (by kernel_rfl) (by kernel_rfl) (by kernel_rfl) (fun _ _ _ h => h) (Or.inl ⟨by rfl, ?hyr132⟩) hHeld ?restr132
              case hyr132 => (intro W hSw; (try dsimp only at hSw); (try obtain ⟨hSw1, hSw2⟩ := hSw); (try obtain ⟨hSw2, hSw3⟩ := hSw2); (try obtain ⟨hSw3, hSw4⟩ := hSw3); (try obtain ⟨hSw4, hSw5⟩ := hSw4); go_simp; first | done | with_reducible rfl)
              simp only [Act.put, List.setIfInBounds_toArray, List.set_cons_zero, List.set_cons_succ]
              refine wpAnyH_take (i := 3) (oi := ⟨some 123, _, _, _, _, _⟩) (v := ?vr133) rfl (by kernel_rfl) (by kernel_rfl) (by kernel_rfl) (fun _ _ _ h => h) (Or.inl ⟨by rfl, ?hyr133⟩) hHeld ?restr133
              case hyr133 => (intro W hSw; (try dsimp only at hSw); (try obtain ⟨hSw1, hSw2⟩ := hSw); (try obtain ⟨hSw2, hSw3⟩ := hSw2); (try obtain ⟨hSw3, hSw4⟩ := hSw3); (try obtain ⟨hSw4, hSw5⟩ := hSw4); go_simp; first | done | with_reducible rfl)
              simp only [Act.put, List.setIfInBounds_toArray, List.set_cons_zero, List.set_cons_succ]
              refine wpAnyH_ready (rs := [1]) (by kernel_rfl) (by simp) ?_
              refine AllReadyH.cons (o := ⟨some 121, _, _, _, _, _⟩) rfl (fun KK hK => ?_) AllReadyH.nil
              go_simp
              refine (CL1.out w12.drew (show PN w w12.drew b xb pp2 pl2 n2 cp2 cl2 k low many h2 h2 L2 from HP.out.below ⟨rfl, rfl, rfl, Nat.le_refl _, fun _ _ => rfl⟩)).mono ?_; rintro e w21 ⟨v21, rfl, ho21, hb21⟩
              obtain ⟨q21, c21, rfl, hi21, _⟩ := own_read ho21
              rw [HLN.out]
              have HI21 := Lib.hid hi21
              have HP21 := Lib.hid (((show PN w w12.drew b xb pp2 pl2 n2 cp2 cl2 k low many h2 h2 L2 from HP.out.below ⟨rfl, rfl, rfl, Nat.le_refl _, fun _ _ => rfl⟩)).below hb21)
              have HB21 := Lib.hid hb21
              clear ho21 hi21 hb21
              go_wp2_with fail
              refine hK.out _ _ (HP21.out.x.cell 2 _ rfl) (fun hHeld2 => ?_)
              clear hK
              try simp only [Act.put, List.setIfInBounds_toArray, List.set_cons_zero, List.set_cons_succ]
              refine wpAnyH_ready (rs := [4]) (by kernel_rfl) (by simp) ?_
              refine AllReadyH.cons (o := ⟨some 124, _, _, _, _, _⟩) rfl (fun KK2 hK2 => ?_) AllReadyH.nil
              go_simp
              refine (CR1.out w21 HP21.out).mono ?_; rintro e w22 ⟨⟨q22, c22, rfl, ho22⟩, hb22⟩
              obtain ⟨q9, c9, e9, hi22, _⟩ := own_read ho22
              injection e9 with e9 e11 e10
              clear e11
              subst e9; subst e10
              have HI22 := Lib.hid hi22
              have HP22 := Lib.hid ((HP21.out).below hb22)
              have HB22 := Lib.hid hb22
              clear ho22 hi22 hb22
              go_wp2_with fail
              refine hK2.out _ _ (HP22.out.x.cell 2 _ rfl) (fun hHeld3 => ?_)
              clear hK2
              try simp only [Act.put, List.setIfInBounds_toArray, List.set_cons_zero, List.set_cons_succ]
              refine wpAnyH_ready (rs := [5]) (by kernel_rfl) (by simp) ?_
              refine AllReadyH.cons (o := ⟨some 125, _, _, _, _, _⟩) rfl (fun KK3 hK3 => ?_) AllReadyH.nil
              have IA := HI21.out.below HB22.out
              have IB := HI22.out
              go_simp
              refine (ints_any q21 q22 c21 c22 n2 n2 lw lw w22 HLN.out.symm HLN.out.symm IA IB true (by simp)).mono ?_; rintro e w23 ⟨rfl, hb23⟩
              have HP23 := Lib.hid (HP22.out.below hb23)
              clear hb23
              go_wp2_with fail
              refine hK3.out _ _ (HP23.out.x.cell 2 _ rfl) (fun hHeld4 => ?_)
              clear hK3
              try simp only [Act.put, List.setIfInBounds_toArray, List.set_cons_zero, List.set_cons_succ]
              refine wpAnyH_take (i := 6) (oi := ⟨some 126, _, _, _, _, _⟩) (v := ?vr146) rfl (by kernel_rfl) (by kernel_rfl) (by kernel_rfl) (fun _ _ _ h => h) (Or.inl ⟨by rfl, ?hyr146⟩) hHeld4 ?restr146
              case hyr146 => (intro W hSw; (try dsimp only at hSw); (try obtain ⟨hSw1, hSw2⟩ := hSw); (try obtain ⟨hSw2, hSw3⟩ := hSw2); (try obtain ⟨hSw3, hSw4⟩ := hSw3); (try obtain ⟨hSw4, hSw5⟩ := hSw4); go_simp; first | done | with_reducible rfl)
              simp only [Act.put, List.setIfInBounds_toArray, List.set_cons_zero, List.set_cons_succ]
              refine wpAnyH_done (by kernel_rfl) ?_ _
              clear hHeld hHeld2 hHeld3 hHeld4 d2 CL1 CR1 HLN HP
              go_wp2_with fail
              go_roundw
              case rel => exact ⟨k + 1, pp2, pl2, n2, cp2, cl2, h2, L2, by omega, by omega, by first | rfl | go_num, Lib.hid (HP23.out.mono (by omega))⟩
              case measure => simp [vN]; omega
            · go_simp
              have hbA := bdrewN (balloc (brefl wr) (.cells #[.int .i64 0, .int .i64 0, .slice none 0 0, .slice none 0 0] 45)) 1
              have hbA : Below wr.heap.size wr (wr.alloc (.cells #[.int .i64 0, .int .i64 0, .slice none 0 0, .slice none 0 0] 45)).drew := hbA
              have hzA : Blk 45 (wr.alloc (.cells #[.int .i64 0, .int .i64 0, .slice none 0 0, .slice none 0 0] 45)).drew wr.heap.size [.int .i64 0, .int .i64 0, .slice none 0 0, .slice none 0 0] := Blk.new wr 45 _
              have hgx : wr.heap.size ≠ xb := by have := HP.out.x.lt; omega
              have hgy : xb ≠ wr.heap.size := fun e => hgx e.symm
              have HPA := Lib.hid (HP.out.below hbA)
              have hszA : wr.heap.size < (wr.alloc (.cells #[.int .i64 0, .int .i64 0, .slice none 0 0, .slice none 0 0] 45)).drew.heap.size := hzA.lt
              have HOL1 : Hid (∀ a, pp = some a → a.block < wr.heap.size) := Lib.hid (fun a e => HP.out.tab.xl _ (.inr (.inr (.inl ⟨a, e, rfl⟩))))
              have HOL2 : Hid (∀ a, pl = some a → a.block < wr.heap.size) := Lib.hid (fun a e => HP.out.tab.xl _ (.inr (.inr (.inr ⟨a, e, rfl⟩))))
              refine hK.out _ _ (⟨HPA.out.x.cell 0 _ rfl, HPA.out.x.cell 1 _ rfl, HPA.out.x.cell 2 _ rfl, HPA.out.x.cell 3 _ rfl, HCA.out _ HPA.out.bel⟩) (fun hHeld2 => ?_)
              clear hK KK
              try simp only [Act.put, List.setIfInBounds_toArray, List.set_cons_zero, List.set_cons_succ]
              refine wpAnyH_ready (rs := [4]) (by kernel_rfl) (by simp) ?_
              refine AllReadyH.cons (o := ⟨some 108, _, _, _, _, _⟩) rfl (fun KK2 hK2 => ?_) AllReadyH.nil
              go_simp
              generalize (wr.alloc (.cells #[.int .i64 0, .int .i64 0, .slice none 0 0, .slice none 0 0] 45)).drew = wA at hbA hzA hszA HPA ⊢
              refine (CD.out wA HPA.out).mono ?_; rintro e w6 ⟨pp2, n2, cp2, pl2, cl2, L2, rfl, hRL, hD, hb6⟩
              have hb7 : Below wr.heap.size wr w6 := bcall hbA hb6
              have hz6 := hzA.below hb6
              have hne1 : ∀ a, pp2 = some a → a.block ≠ wr.heap.size := fun a e => by
                rcases hD.bp a e with h | h
                · have := HOL1.out a h; omega
                · have := h.1; omega
              have hne2 : ∀ a, pl2 = some a → a.block ≠ wr.heap.size := fun a e => by
                rcases hD.bl a e with h | h
                · have := HOL2.out a h; omega
                · have := h.1; omega
              have hD : Dt wr w6 pp pl pp2 n2 cp2 pl2 cl2 L2 := hD.mono (Nat.le_of_lt hszA)
              generalize hnc : noneC h x0 = nc
              have HNC := Lib.hid hnc
              have HX6 := Lib.hid (HP.out.x.below hb7)
              have HC6 := Lib.hid (HCA.out w6 (bcall HP.out.bel hb7))
              clear hnc
              go_wp2_with fail
              refine hK2.out _ _ (⟨HX6.out.cell 0 _ rfl, HX6.out.cell 1 _ rfl, HX6.out.cell 2 _ rfl, HX6.out.cell 3 _ rfl, HC6.out⟩) (fun hHeld3 => ?_)
              clear hK2 KK2
              try simp only [Act.put, List.setIfInBounds_toArray, List.set_cons_zero, List.set_cons_succ]
              refine wpAnyH_take (i := 5) (oi := ⟨some 103, _, _, _, _, _⟩) (v := ?vr115) rfl (by kernel_rfl) (by kernel_rfl) (by kernel_rfl) (fun _ _ _ h => h) (Or.inl ⟨by rfl, ?hyr115⟩) hHeld3 ?restr115
              case hyr115 => (intro W hSw; (try dsimp only at hSw); (try obtain ⟨hSw1, hSw2⟩ := hSw); (try obtain ⟨hSw2, hSw3⟩ := hSw2); (try obtain ⟨hSw3, hSw4⟩ := hSw3); (try obtain ⟨hSw4, hSw5⟩ := hSw4); go_simp; first | done | with_reducible rfl)
              simp only [Act.put, List.setIfInBounds_toArray, List.set_cons_zero, List.set_cons_succ]
              refine wpAnyH_take (i := 6) (oi := ⟨some 109, _, _, _, _, _⟩) (v := ?vr116) rfl (by kernel_rfl) (by kernel_rfl) (by kernel_rfl) (fun _ _ _ h => h) (Or.inl ⟨by rfl, ?hyr116⟩) hHeld3 ?restr116
              case hyr116 => (intro W hSw; (try dsimp only at hSw); (try obtain ⟨hSw1, hSw2⟩ := hSw); (try obtain ⟨hSw2, hSw3⟩ := hSw2); (try obtain ⟨hSw3, hSw4⟩ := hSw3); (try obtain ⟨hSw4, hSw5⟩ := hSw4); go_simp; first | done | with_reducible rfl)
              simp only [Act.put, List.setIfInBounds_toArray, List.set_cons_zero, List.set_cons_succ]
              refine wpAnyH_take (i := 7) (oi := ⟨some 110, _, _, _, _, _⟩) (v := ?vr117) rfl (by kernel_rfl) (by kernel_rfl) (by kernel_rfl) (fun _ _ _ h => h) (Or.inl ⟨by rfl, ?hyr117⟩) hHeld3 ?restr117
              case hyr117 => (intro W hSw; (try dsimp only at hSw); (try obtain ⟨hSw1, hSw2⟩ := hSw); (try obtain ⟨hSw2, hSw3⟩ := hSw2); (try obtain ⟨hSw3, hSw4⟩ := hSw3); (try obtain ⟨hSw4, hSw5⟩ := hSw4); go_simp; first | done | with_reducible rfl)
              simp only [Act.put, List.setIfInBounds_toArray, List.set_cons_zero, List.set_cons_succ]
              refine wpAnyH_ready (rs := [9]) (by kernel_rfl) (by simp) ?_
              refine AllReadyH.cons (o := ⟨none, _, _, _, _, _⟩) rfl (fun KK3 hK3 => ?_) AllReadyH.nil
              have z0 := hz6.cell 0 _ rfl
              have z1 := hz6.cell 1 _ rfl
              have z2 := hz6.cell 2 _ rfl
              have z3 := hz6.cell 3 _ rfl
              have f0 := hz6.fz 0
              have f1 := hz6.fz 1
              have f2 := hz6.fz 2
              have f3 := hz6.fz 3
              have HZ9 := Lib.hid ((((hz6.set 0 (.int .i64 (low : Int))).set 1 (.int .i64 (many : Int))).set 2 (.slice pp2 n2 cp2)).set 3 (.slice pl2 n2 cl2))
              have HB9 := Lib.hid (below_set (below_set (below_set (below_set hb7 wr.heap.size 0 (.int .i64 (low : Int)) (Nat.le_refl _)) wr.heap.size 1 (.int .i64 (many : Int)) (Nat.le_refl _)) wr.heap.size 2 (.slice pp2 n2 cp2) (Nat.le_refl _)) wr.heap.size 3 (.slice pl2 n2 cl2) (Nat.le_refl _))
              have HD9 := Lib.hid ((((hD.set wr.heap.size 0 (.int .i64 (low : Int)) hne1 hne2).set wr.heap.size 1 (.int .i64 (many : Int)) hne1 hne2).set wr.heap.size 2 (.slice pp2 n2 cp2) hne1 hne2).set wr.heap.size 3 (.slice pl2 n2 cl2) hne1 hne2)
              have HX9 := Lib.hid ((((HX6.out.other wr.heap.size 0 (.int .i64 (low : Int)) hgy).other wr.heap.size 1 (.int .i64 (many : Int)) hgy).other wr.heap.size 2 (.slice pp2 n2 cp2) hgy).other wr.heap.size 3 (.slice pl2 n2 cl2) hgy)
              have HC9 := Lib.hid (HCA.out _ (HP.out.bel.trans (HB9.out.mono HP.out.bel.size)))
              clear hD hne1 hne2 hb6 hb7 hz6 hszA hzA hbA HOL1 HOL2 HPA
              go_simp
              refine hK3.out _ _ (⟨HX9.out.cell 0 _ rfl, HX9.out.cell 1 _ rfl, HX9.out.cell 2 _ rfl, HX9.out.cell 3 _ rfl, HC9.out⟩) (fun hHeld4 => ?_)
              clear hK3 KK3 z0 z1 z2 z3 f0 f1 f2 f3
              try simp only [Act.put, List.setIfInBounds_toArray, List.set_cons_zero, List.set_cons_succ]
              refine wpAnyH_take (i := 10) (oi := ⟨some 21, _, _, _, _, _⟩) (v := ?vr1210) rfl (by kernel_rfl) (by kernel_rfl) (by kernel_rfl) (fun _ _ _ h => h) (Or.inl ⟨by rfl, ?hyr1210⟩) hHeld4 ?restr1210
              case hyr1210 => (intro W hSw; (try dsimp only at hSw); (try obtain ⟨hSw1, hSw2⟩ := hSw); (try obtain ⟨hSw2, hSw3⟩ := hSw2); (try obtain ⟨hSw3, hSw4⟩ := hSw3); (try obtain ⟨hSw4, hSw5⟩ := hSw4); go_simp; first | done | with_reducible rfl)
              simp only [Act.put, List.setIfInBounds_toArray, List.set_cons_zero, List.set_cons_succ]
              refine wpAnyH_done (by kernel_rfl) ?_ _
              generalize (((w6.setCell ⟨wr.heap.size, 0, none⟩ (.int .i64 (low : Int))).setCell ⟨wr.heap.size, 1, none⟩ (.int .i64 (many : Int))).setCell ⟨wr.heap.size, 2, none⟩ (.slice pp2 n2 cp2)).setCell ⟨wr.heap.size, 3, none⟩ (.slice pl2 n2 cl2) = w9 at HZ9 HB9 HD9 HX9 ⊢
              generalize wr.heap.size = g9 at HZ9 hgx hgy ⊢
              clear HC9 HX6 HC6
              clear hHeld hHeld2 hHeld3 hHeld4 c0 CD hq
              have HP10 := Lib.hid (HP.out.store HB9.out HD9.out hRL HT.out)
              have e0 := HX9.out.cell 0 _ rfl
              have e1 := HX9.out.cell 1 _ rfl
              have e2 := HX9.out.cell 2 _ rfl
              have e3 := HX9.out.cell 3 _ rfl
              have f0 := HX9.out.fz 0
              have f1 := HX9.out.fz 1
              have f2 := HX9.out.fz 2
              have f3 := HX9.out.fz 3
              have z0 := HZ9.out.cell 0 _ rfl
              have z1 := HZ9.out.cell 1 _ rfl
              have z2 := HZ9.out.cell 2 _ rfl
              have z3 := HZ9.out.cell 3 _ rfl
              have c10 := HCA.out _ HP10.out.bel
              have c9 := HCA.out w9 (HP.out.bel.trans (HB9.out.mono HP.out.bel.size))
              have hb2y : xb ≠ b2 := fun e => hb2x e.symm
              clear HX9 HZ9 HB9 HD9 HP hRL
              go_wp2_with fail
              generalize (((w9.setCell ⟨xb, 0, none⟩ (.int .i64 (low : Int))).setCell ⟨xb, 1, none⟩ (.int .i64 (many : Int))).setCell ⟨xb, 2, none⟩ (.slice pp2 n2 cp2)).setCell ⟨xb, 3, none⟩ (.slice pl2 n2 cl2) = w10 at HP10 c10 ⊢
              clear e0 e1 e2 e3 f0 f1 f2 f3 z0 z1 z2 z3
              refine (drop_any _ b k low many h x0 w10 HP10.out.tab HW0.out).mono ?_; rintro e w11 ⟨rfl, ht11, hk11⟩
              rw [HNC.out]
              have HP11 := Lib.hid (HP10.out.turn ht11 hk11)
              have EC := Lib.hid (fun W hW => ER.out nc W hW)
              generalize er nc = ve at EC ⊢
              clear ht11 hk11 HP10 c10 HT
              generalize hh2 : upd h x0 none = h2 at HP11
              clear hh2
              go_wp2_with fail
              refine (EC.out w11 HP11.out.bel).mono ?_; rintro e w12 ⟨rfl, hb12⟩
              have HP := Lib.hid (HP11.out.below hb12)
              clear hb12 HP11 EC
              go_wp2_with fail
              obtain ⟨lw, hlw⟩ : ∃ l, lentL low many h2 = l := ⟨_, rfl⟩
              have CL1 := Lib.hid (fun W (hW : PN w W b xb pp2 pl2 n2 cp2 cl2 k low many h2 h2 L2) => lent_any _ b k low many h2 W hW.tab (by omega))
              have CR1 := Lib.hid (fun W (hW : PN w W b xb pp2 pl2 n2 cp2 cl2 k low many h2 h2 L2) => Rising.rise_any pp2 cp2 n2 (L2.map Prod.fst) W (by rw [List.length_map]; exact hW.len) hW.p (by have := hW.rl.few hW.tb; have := hW.len; omega))
              have hsr : Rising.srt (L2.map Prod.fst) = lw := by rw [← hlw]; exact HP.out.rl.sorted HP.out.tb
              have hln : lw.length = n2 := by rw [← hlw, ← HP.out.rl.len HP.out.tb]; exact HP.out.len.symm
              rw [hsr] at CR1
              rw [hlw] at CL1
              have HLN := Lib.hid hln
              clear hlw hsr hln
              have d2 := HP.out.x.cell 2 _ rfl
              refine wp_region_held_drew (S := (fun W' => W'.cell? ⟨xb, 2, none⟩ = some (.slice pp2 n2 cp2))) (by kernel_rfl) d2 (fun hHeld => ?_)
              refine wpAnyH_take (i := 0) (oi := ⟨some 120, _, _, _, _, _⟩) (v := ?vr160) rfl (by kernel_rfl) (by kernel_rfl) (by kernel_rfl) (fun _ _ _ h => h) (Or.inl ⟨by rfl, ?hyr160⟩) hHeld ?restr160
              case hyr160 => (intro W hSw; (try dsimp only at hSw); (try obtain ⟨hSw1, hSw2⟩ := hSw); (try obtain ⟨hSw2, hSw3⟩ := hSw2); (try obtain ⟨hSw3, hSw4⟩ := hSw3); (try obtain ⟨hSw4, hSw5⟩ := hSw4); go_simp; first | done | with_reducible rfl)
              simp only [Act.put, List.setIfInBounds_toArray, List.set_cons_zero, List.set_cons_succ]
              refine wpAnyH_take (i := 2) (oi := ⟨some 122, _, _, _, _, _⟩) (v := ?vr162) rfl (by kernel_rfl) (by kernel_rfl) (by kernel_rfl) (fun _ _ _ h => h) (Or.inl ⟨by rfl, ?hyr162⟩) hHeld ?restr162
              case hyr162 => (intro W hSw; (try dsimp only at hSw); (try obtain ⟨hSw1, hSw2⟩ := hSw); (try obtain ⟨hSw2, hSw3⟩ := hSw2); (try obtain ⟨hSw3, hSw4⟩ := hSw3); (try obtain ⟨hSw4, hSw5⟩ := hSw4); go_simp; first | done | with_reducible rfl)
              simp only [Act.put, List.setIfInBounds_toArray, List.set_cons_zero, List.set_cons_succ]
              refine wpAnyH_take (i := 3) (oi := ⟨some 123, _, _, _, _, _⟩) (v := ?vr163) rfl (by kernel_rfl) (by kernel_rfl) (by kernel_rfl) (fun _ _ _ h => h) (Or.inl ⟨by rfl, ?hyr163⟩) hHeld ?restr163
              case hyr163 => (intro W hSw; (try dsimp only at hSw); (try obtain ⟨hSw1, hSw2⟩ := hSw); (try obtain ⟨hSw2, hSw3⟩ := hSw2); (try obtain ⟨hSw3, hSw4⟩ := hSw3); (try obtain ⟨hSw4, hSw5⟩ := hSw4); go_simp; first | done | with_reducible rfl)
              simp only [Act.put, List.setIfInBounds_toArray, List.set_cons_zero, List.set_cons_succ]
              refine wpAnyH_ready (rs := [1]) (by kernel_rfl) (by simp) ?_
              refine AllReadyH.cons (o := ⟨some 121, _, _, _, _, _⟩) rfl (fun KK hK => ?_) AllReadyH.nil
              go_simp
              refine (CL1.out w12.drew (show PN w w12.drew b xb pp2 pl2 n2 cp2 cl2 k low many h2 h2 L2 from HP.out.below ⟨rfl, rfl, rfl, Nat.le_refl _, fun _ _ => rfl⟩)).mono ?_; rintro e w21 ⟨v21, rfl, ho21, hb21⟩
              obtain ⟨q21, c21, rfl, hi21, _⟩ := own_read ho21
              rw [HLN.out]
              have HI21 := Lib.hid hi21
              have HP21 := Lib.hid (((show PN w w12.drew b xb pp2 pl2 n2 cp2 cl2 k low many h2 h2 L2 from HP.out.below ⟨rfl, rfl, rfl, Nat.le_refl _, fun _ _ => rfl⟩)).below hb21)
              have HB21 := Lib.hid hb21
              clear ho21 hi21 hb21
              go_wp2_with fail
              refine hK.out _ _ (HP21.out.x.cell 2 _ rfl) (fun hHeld2 => ?_)
              clear hK
              try simp only [Act.put, List.setIfInBounds_toArray, List.set_cons_zero, List.set_cons_succ]
              refine wpAnyH_ready (rs := [4]) (by kernel_rfl) (by simp) ?_
              refine AllReadyH.cons (o := ⟨some 124, _, _, _, _, _⟩) rfl (fun KK2 hK2 => ?_) AllReadyH.nil
              go_simp
              refine (CR1.out w21 HP21.out).mono ?_; rintro e w22 ⟨⟨q22, c22, rfl, ho22⟩, hb22⟩
              obtain ⟨q9, c9, e9, hi22, _⟩ := own_read ho22
              injection e9 with e9 e11 e10
              clear e11
              subst e9; subst e10
              have HI22 := Lib.hid hi22
              have HP22 := Lib.hid ((HP21.out).below hb22)
              have HB22 := Lib.hid hb22
              clear ho22 hi22 hb22
              go_wp2_with fail
              refine hK2.out _ _ (HP22.out.x.cell 2 _ rfl) (fun hHeld3 => ?_)
              clear hK2
              try simp only [Act.put, List.setIfInBounds_toArray, List.set_cons_zero, List.set_cons_succ]
              refine wpAnyH_ready (rs := [5]) (by kernel_rfl) (by simp) ?_
              refine AllReadyH.cons (o := ⟨some 125, _, _, _, _, _⟩) rfl (fun KK3 hK3 => ?_) AllReadyH.nil
              have IA := HI21.out.below HB22.out
              have IB := HI22.out
              go_simp
              refine (ints_any q21 q22 c21 c22 n2 n2 lw lw w22 HLN.out.symm HLN.out.symm IA IB true (by simp)).mono ?_; rintro e w23 ⟨rfl, hb23⟩
              have HP23 := Lib.hid (HP22.out.below hb23)
              clear hb23
              go_wp2_with fail
              refine hK3.out _ _ (HP23.out.x.cell 2 _ rfl) (fun hHeld4 => ?_)
              clear hK3
              try simp only [Act.put, List.setIfInBounds_toArray, List.set_cons_zero, List.set_cons_succ]
              refine wpAnyH_take (i := 6) (oi := ⟨some 126, _, _, _, _, _⟩) (v := ?vr176) rfl (by kernel_rfl) (by kernel_rfl) (by kernel_rfl) (fun _ _ _ h => h) (Or.inl ⟨by rfl, ?hyr176⟩) hHeld4 ?restr176
              case hyr176 => (intro W hSw; (try dsimp only at hSw); (try obtain ⟨hSw1, hSw2⟩ := hSw); (try obtain ⟨hSw2, hSw3⟩ := hSw2); (try obtain ⟨hSw3, hSw4⟩ := hSw3); (try obtain ⟨hSw4, hSw5⟩ := hSw4); go_simp; first | done | with_reducible rfl)
              simp only [Act.put, List.setIfInBounds_toArray, List.set_cons_zero, List.set_cons_succ]
              refine wpAnyH_done (by kernel_rfl) ?_ _
              clear hHeld hHeld2 hHeld3 hHeld4 d2 CL1 CR1 HLN HP
              go_wp2_with fail
              go_roundw
              case rel => exact ⟨k + 1, pp2, pl2, n2, cp2, cl2, h2, L2, by omega, by omega, by first | rfl | go_num, Lib.hid (HP23.out.mono (by omega))⟩
              case measure => simp [vN]; omega
          · obtain ⟨m, hm⟩ : ∃ m, y.length = m := ⟨_, rfl⟩
            rw [hm] at hq hlen2 h3 h4
            have u3 : ((m : Int) == 2) = false := by rw [beq_eq_false_iff_ne]; omega
            have u4 : ((m : Int) == 1) = false := by rw [beq_eq_false_iff_ne]; omega
            clear hm h3 h4 hI
            go_wp2_with fail
            obtain ⟨lw, hlw⟩ : ∃ l, lentL low many h = l := ⟨_, rfl⟩
            have CL1 := Lib.hid (fun W (hW : PN w W b xb pp pl n cp cl k low many h h L) => lent_any _ b k low many h W hW.tab (by omega))
            have CR1 := Lib.hid (fun W (hW : PN w W b xb pp pl n cp cl k low many h h L) => Rising.rise_any pp cp n (L.map Prod.fst) W (by rw [List.length_map]; exact hW.len) hW.p (by have := hW.rl.few hW.tb; have := hW.len; omega))
            have hsr : Rising.srt (L.map Prod.fst) = lw := by rw [← hlw]; exact HP.out.rl.sorted HP.out.tb
            have hln : lw.length = n := by rw [← hlw, ← HP.out.rl.len HP.out.tb]; exact HP.out.len.symm
            rw [hsr] at CR1
            rw [hlw] at CL1
            have HLN := Lib.hid hln
            clear hlw hsr hln
            have d2 := HP.out.x.cell 2 _ rfl
            refine wp_region_held_drew (S := (fun W' => W'.cell? ⟨xb, 2, none⟩ = some (.slice pp n cp))) (by kernel_rfl) d2 (fun hHeld => ?_)
            refine wpAnyH_take (i := 0) (oi := ⟨some 120, _, _, _, _, _⟩) (v := ?vr10) rfl (by kernel_rfl) (by kernel_rfl) (by kernel_rfl) (fun _ _ _ h => h) (Or.inl ⟨by rfl, ?hyr10⟩) hHeld ?restr10
            case hyr10 => (intro W hSw; (try dsimp only at hSw); (try obtain ⟨hSw1, hSw2⟩ := hSw); (try obtain ⟨hSw2, hSw3⟩ := hSw2); (try obtain ⟨hSw3, hSw4⟩ := hSw3); (try obtain ⟨hSw4, hSw5⟩ := hSw4); go_simp; first | done | with_reducible rfl)
            simp only [Act.put, List.setIfInBounds_toArray, List.set_cons_zero, List.set_cons_succ]
            refine wpAnyH_take (i := 2) (oi := ⟨some 122, _, _, _, _, _⟩) (v := ?vr12) rfl (by kernel_rfl) (by kernel_rfl) (by kernel_rfl) (fun _ _ _ h => h) (Or.inl ⟨by rfl, ?hyr12⟩) hHeld ?restr12
            case hyr12 => (intro W hSw; (try dsimp only at hSw); (try obtain ⟨hSw1, hSw2⟩ := hSw); (try obtain ⟨hSw2, hSw3⟩ := hSw2); (try obtain ⟨hSw3, hSw4⟩ := hSw3); (try obtain ⟨hSw4, hSw5⟩ := hSw4); go_simp; first | done | with_reducible rfl)
            simp only [Act.put, List.setIfInBounds_toArray, List.set_cons_zero, List.set_cons_succ]
            refine wpAnyH_take (i := 3) (oi := ⟨some 123, _, _, _, _, _⟩) (v := ?vr13) rfl (by kernel_rfl) (by kernel_rfl) (by kernel_rfl) (fun _ _ _ h => h) (Or.inl ⟨by rfl, ?hyr13⟩) hHeld ?restr13
            case hyr13 => (intro W hSw; (try dsimp only at hSw); (try obtain ⟨hSw1, hSw2⟩ := hSw); (try obtain ⟨hSw2, hSw3⟩ := hSw2); (try obtain ⟨hSw3, hSw4⟩ := hSw3); (try obtain ⟨hSw4, hSw5⟩ := hSw4); go_simp; first | done | with_reducible rfl)
            simp only [Act.put, List.setIfInBounds_toArray, List.set_cons_zero, List.set_cons_succ]
            refine wpAnyH_ready (rs := [1]) (by kernel_rfl) (by simp) ?_
            refine AllReadyH.cons (o := ⟨some 121, _, _, _, _, _⟩) rfl (fun KK hK => ?_) AllReadyH.nil
            go_simp
            refine (CL1.out wr.drew (show PN w wr.drew b xb pp pl n cp cl k low many h h L from HP.out.below ⟨rfl, rfl, rfl, Nat.le_refl _, fun _ _ => rfl⟩)).mono ?_; rintro e w21 ⟨v21, rfl, ho21, hb21⟩
            obtain ⟨q21, c21, rfl, hi21, _⟩ := own_read ho21
            rw [HLN.out]
            have HI21 := Lib.hid hi21
            have HP21 := Lib.hid (((show PN w wr.drew b xb pp pl n cp cl k low many h h L from HP.out.below ⟨rfl, rfl, rfl, Nat.le_refl _, fun _ _ => rfl⟩)).below hb21)
            have HB21 := Lib.hid hb21
            clear ho21 hi21 hb21
            go_wp2_with fail
            refine hK.out _ _ (HP21.out.x.cell 2 _ rfl) (fun hHeld2 => ?_)
            clear hK
            try simp only [Act.put, List.setIfInBounds_toArray, List.set_cons_zero, List.set_cons_succ]
            refine wpAnyH_ready (rs := [4]) (by kernel_rfl) (by simp) ?_
            refine AllReadyH.cons (o := ⟨some 124, _, _, _, _, _⟩) rfl (fun KK2 hK2 => ?_) AllReadyH.nil
            go_simp
            refine (CR1.out w21 HP21.out).mono ?_; rintro e w22 ⟨⟨q22, c22, rfl, ho22⟩, hb22⟩
            obtain ⟨q9, c9, e9, hi22, _⟩ := own_read ho22
            injection e9 with e9 e11 e10
            clear e11
            subst e9; subst e10
            have HI22 := Lib.hid hi22
            have HP22 := Lib.hid ((HP21.out).below hb22)
            have HB22 := Lib.hid hb22
            clear ho22 hi22 hb22
            go_wp2_with fail
            refine hK2.out _ _ (HP22.out.x.cell 2 _ rfl) (fun hHeld3 => ?_)
            clear hK2
            try simp only [Act.put, List.setIfInBounds_toArray, List.set_cons_zero, List.set_cons_succ]
            refine wpAnyH_ready (rs := [5]) (by kernel_rfl) (by simp) ?_
            refine AllReadyH.cons (o := ⟨some 125, _, _, _, _, _⟩) rfl (fun KK3 hK3 => ?_) AllReadyH.nil
            have IA := HI21.out.below HB22.out
            have IB := HI22.out
            go_simp
            refine (ints_any q21 q22 c21 c22 n n lw lw w22 HLN.out.symm HLN.out.symm IA IB true (by simp)).mono ?_; rintro e w23 ⟨rfl, hb23⟩
            have HP23 := Lib.hid (HP22.out.below hb23)
            clear hb23
            go_wp2_with fail
            refine hK3.out _ _ (HP23.out.x.cell 2 _ rfl) (fun hHeld4 => ?_)
            clear hK3
            try simp only [Act.put, List.setIfInBounds_toArray, List.set_cons_zero, List.set_cons_succ]
            refine wpAnyH_take (i := 6) (oi := ⟨some 126, _, _, _, _, _⟩) (v := ?vr26) rfl (by kernel_rfl) (by kernel_rfl) (by kernel_rfl) (fun _ _ _ h => h) (Or.inl ⟨by rfl, ?hyr26⟩) hHeld4 ?restr26
            case hyr26 => (intro W hSw; (try dsimp only at hSw); (try obtain ⟨hSw1, hSw2⟩ := hSw); (try obtain ⟨hSw2, hSw3⟩ := hSw2); (try obtain ⟨hSw3, hSw4⟩ := hSw3); (try obtain ⟨hSw4, hSw5⟩ := hSw4); go_simp; first | done | with_reducible rfl)
            simp only [Act.put, List.setIfInBounds_toArray, List.set_cons_zero, List.set_cons_succ]
            refine wpAnyH_done (by kernel_rfl) ?_ _
            clear hHeld hHeld2 hHeld3 hHeld4 d2 CL1 CR1 HLN HP
            go_wp2_with fail
            go_roundw
            case rel => exact ⟨k + 1, pp, pl, n, cp, cl, h, L, by omega, by omega, by first | rfl | go_num, Lib.hid (HP23.out.mono (by omega))⟩
            case measure => simp [vN]; omega
      · have u2 : decide ((k : Int) < 60) = false := decide_eq_false (by omega)
        have HPz := Lib.hid (HP.out.below (balloc (brefl wr) (.cells #[.int .i64 0, .int .i64 0] 24)))
        have HBz := Lib.hid (Box.new wr ⟨0, 0⟩ 24)
        have HKz := Lib.hid (Blk.new wr 24 [.int .i64 0, .int .i64 0])
        have HBEL := Lib.hid HP.out.bel
        have HTz : Hid (Tab (fun j => XQ w xb pp pl j ∨ j = wr.heap.size) (wr.alloc (.cells #[.int .i64 0, .int .i64 0] 24)) b k low many h) := Lib.hid (HP.out.tab.late (balloc (brefl wr) (.cells #[.int .i64 0, .int .i64 0] 24)) (fun j hj => by
          rcases hj with hj | hj
          · have := HP.out.tab.xl j hj
            exact ⟨.inl hj, by simp; omega⟩
          · exact ⟨.inr (by omega), by simp; omega⟩))
        have e0 := HPz.out.x.cell 0 _ rfl
        have e1 := HPz.out.x.cell 1 _ rfl
        have e2 := HPz.out.x.cell 2 _ rfl
        have e3 := HPz.out.x.cell 3 _ rfl
        have CA := Lib.hid (rat_any (low : Int) (many : Int) pp pl n n cp cl L ask (wr.alloc (.cells #[.int .i64 0, .int .i64 0] 24)) HPz.out.len HPz.out.p)
        clear HP
        rcases idx_cases L ask with ⟨hix, hnx⟩ | ⟨j, y, hix, hjy⟩
        · rw [hix] at CA
          have HH := Lib.hid (show h ask = none from by
            cases e : h ask with
            | none => rfl
            | some y => exact absurd rfl (hnx _ ((HPz.out.rl.mem _ y).1 e)))
          clear hix hnx
          go_wp2_with fail
          refine CA.out.mono ?_; rintro e w3 ⟨rfl, hb3⟩
          have HP3 := Lib.hid (HPz.out.below hb3)
          have HBW3 := Lib.hid (HBz.out.below hb3 HBz.out.1)
          have HT3 := Lib.hid HP3.out.tab
          have HBL3 := Lib.hid HP3.out.bel
          clear CA hb3 HPz HBz e0 e1 e2 e3 HP3
          have CI := Lib.hid (in_any _ b k low many h ask w3 HT3.out HASK.out)
          have EC := Lib.hid (fun W hW => ER.out 5 W hW)
          rw [show atOf h ask = ⟨0, 0⟩ by unfold atOf; rw [HH.out]; rfl, show noneC h ask = 5 by unfold noneC; rw [HH.out]; rfl] at CI
          generalize er 5 = ve at CI EC
          clear HASK
          go_wp2_with fail
          refine CI.out.mono ?_; rintro e w4 ⟨rfl, hb4⟩
          have HBL4 := Lib.hid (bcall HBL3.out hb4)
          have HBW4 := Lib.hid ((HBW3.out.below hb4 HBW3.out.1).alloc (.cells #[.int .i64 0, .int .i64 0] 24))
          have HBP4 := Lib.hid (Box.new w4 ⟨0, 0⟩ 24)
          have HB4 := Lib.hid (bcall HBL4.out (balloc (brefl w4) (.cells #[.int .i64 0, .int .i64 0] 24)))
          have E : ∀ W, (Op.equalIn 10000 24 (.agg #[.int .i64 0, .int .i64 0]) (.agg #[.int .i64 0, .int .i64 0])).run Tryd.prog W = .ok true W := fun W => by rw [eqX]; simp
          clear hb4 CI HT3 HBL3 HBW3 HBL4 HH
          go_wp2_with (go_at_call 15
                       refine (EC.out _ HB4.out).mono ?_; rintro e w6 ⟨rfl, hb6⟩
                       have hA := HBW4.out.below hb6 HBW4.out.1
                       have hB := HBP4.out.below hb6 HBP4.out.1
                       have a0 := hA.2.1
                       have a1 := hA.2.2
                       have a2 := hB.2.1
                       have a3 := hB.2.2
                       have HB6 := Lib.hid (bcall HB4.out hb6)
                       clear hb6 hA hB)
          go_ret
          exact ⟨by first | rfl | simp, HB6.out⟩
        · rw [hix] at CA
          have t3 : decide ((j : Int) ≥ 0) = true := decide_eq_true (by omega)
          have t4 : decide (0 ≤ (j : Int)) = true := t3
          have HH := Lib.hid ((HPz.out.rl.mem _ y).2 (List.mem_of_getElem? hjy))
          have hjl := lt_of_at hjy
          have hjn : (j : Int) < (n : Int) := by have := HPz.out.len; omega
          have hlen9 : n ≤ 30 := by rw [HPz.out.len]; exact HPz.out.rl.few HPz.out.tb
          obtain ⟨b9, o9, rfl, hcp⟩ := places_both HPz.out.l (by rw [List.length_map]; omega)
          have HCP := Lib.hid (fun W hW => hcp W hW j y (snd_at hjy))
          obtain ⟨y1, y2⟩ := y
          clear hix hjy hjl hcp
          go_wp2_with fail
          refine CA.out.mono ?_; rintro e w3 ⟨rfl, hb3⟩
          have HP3 := Lib.hid (HPz.out.below hb3)
          have hkz3 := HKz.out.below hb3
          have hcc := HCP.out w3 hb3
          have p0 : w3.cell? ⟨b9, o9 + j * 2, none⟩ = some (.int .i64 y1) := hcc.1
          have p1 : w3.cell? ⟨b9, o9 + j * 2 + 1, none⟩ = some (.int .i64 y2) := hcc.2
          have e3 := HP3.out.x.cell 3 _ rfl
          have z0 := hkz3.cell 0 _ rfl
          have z1 := hkz3.cell 1 _ rfl
          have f0 := hkz3.fz 0
          have f1 := hkz3.fz 1
          have hgle : w.heap.size ≤ wr.heap.size := HBEL.out.size
          have ht3 := HTz.out.below hb3
          have hg1 := set_grown w3 wr.heap.size 0 (.int .i64 y1)
          have hg2 := set_grown (w3.setCell ⟨wr.heap.size, 0, none⟩ (.int .i64 y1)) wr.heap.size 1 (.int .i64 y2)
          have ht4 := ht3.more hg1 (fun k e => by injection e with e; exact .inr e.symm) (fun k hk => ⟨.inl hk, Nat.lt_of_lt_of_le (ht3.xl k hk) hg1.size⟩)
          have HT3 := Lib.hid (ht4.more hg2 (fun k e => by injection e with e; exact .inr e.symm) (fun k hk => ⟨.inl hk, Nat.lt_of_lt_of_le (ht4.xl k hk) hg2.size⟩))
          have HBL3 := Lib.hid (below_set (below_set HP3.out.bel wr.heap.size 0 (.int .i64 y1) hgle) wr.heap.size 1 (.int .i64 y2) hgle)
          have hk5 := (hkz3.set 0 (.int .i64 y1)).set 1 (.int .i64 y2)
          have HBW3 : Hid (Box ((w3.setCell ⟨wr.heap.size, 0, none⟩ (.int .i64 y1)).setCell ⟨wr.heap.size, 1, none⟩ (.int .i64 y2)) wr.heap.size ⟨y1, y2⟩) := Lib.hid ⟨hk5.lt, hk5.cell 0 _ rfl, hk5.cell 1 _ rfl⟩
          clear CA hb3 HPz HBz e0 e1 e2 hcc hkz3 ht3 ht4 hg1 hg2 hk5 HP3 HTz HKz
          go_wp2_with fail
          generalize (w3.setCell ⟨wr.heap.size, 0, none⟩ (.int .i64 y1)).setCell ⟨wr.heap.size, 1, none⟩ (.int .i64 y2) = w5 at HT3 HBL3 HBW3 ⊢
          generalize wr.heap.size = g5 at HBW3 ⊢
          clear p0 p1 e3 z0 z1 f0 f1
          have CI := Lib.hid (in_any _ b k low many h ask w5 HT3.out HASK.out)
          have EC := Lib.hid (fun W hW => ER.out 0 W hW)
          rw [show atOf h ask = ⟨y1, y2⟩ by unfold atOf; rw [HH.out]; rfl, show noneC h ask = 0 by unfold noneC; rw [HH.out]; rfl] at CI
          rw [er_0] at CI EC
          clear HASK
          go_wp2_with fail
          refine CI.out.mono ?_; rintro e w4 ⟨rfl, hb4⟩
          have HBL4 := Lib.hid (bcall HBL3.out hb4)
          have HBW4 := Lib.hid ((HBW3.out.below hb4 HBW3.out.1).alloc (.cells #[.int .i64 y1, .int .i64 y2] 24))
          have HBP4 := Lib.hid (Box.new w4 ⟨y1, y2⟩ 24)
          have HB4 := Lib.hid (bcall HBL4.out (balloc (brefl w4) (.cells #[.int .i64 y1, .int .i64 y2] 24)))
          have E : ∀ W, (Op.equalIn 10000 24 (.agg #[.int .i64 y1, .int .i64 y2]) (.agg #[.int .i64 y1, .int .i64 y2])).run Tryd.prog W = .ok true W := fun W => by rw [eqX]; simp
          clear hb4 CI HT3 HBL3 HBW3 HBL4 HH
          go_wp2_with (go_at_call 15
                       refine (EC.out _ HB4.out).mono ?_; rintro e w6 ⟨rfl, hb6⟩
                       have hA := HBW4.out.below hb6 HBW4.out.1
                       have hB := HBP4.out.below hb6 HBP4.out.1
                       have a0 := hA.2.1
                       have a1 := hA.2.2
                       have a2 := hB.2.1
                       have a3 := hB.2.2
                       have HB6 := Lib.hid (bcall HB4.out hb6)
                       clear hb6 hA hB)
          go_ret
          exact ⟨by first | rfl | simp, HB6.out⟩
    · have u1 : decide ((k : Int) < (n0 : Int)) = false := decide_eq_false (by omega)
      have HPz := Lib.hid (HP.out.below (balloc (brefl wr) (.cells #[.int .i64 0, .int .i64 0] 24)))
      have HBz := Lib.hid (Box.new wr ⟨0, 0⟩ 24)
      have HKz := Lib.hid (Blk.new wr 24 [.int .i64 0, .int .i64 0])
      have HBEL := Lib.hid HP.out.bel
      have HTz : Hid (Tab (fun j => XQ w xb pp pl j ∨ j = wr.heap.size) (wr.alloc (.cells #[.int .i64 0, .int .i64 0] 24)) b k low many h) := Lib.hid (HP.out.tab.late (balloc (brefl wr) (.cells #[.int .i64 0, .int .i64 0] 24)) (fun j hj => by
        rcases hj with hj | hj
        · have := HP.out.tab.xl j hj
          exact ⟨.inl hj, by simp; omega⟩
        · exact ⟨.inr (by omega), by simp; omega⟩))
      have e0 := HPz.out.x.cell 0 _ rfl
      have e1 := HPz.out.x.cell 1 _ rfl
      have e2 := HPz.out.x.cell 2 _ rfl
      have e3 := HPz.out.x.cell 3 _ rfl
      have CA := Lib.hid (rat_any (low : Int) (many : Int) pp pl n n cp cl L ask (wr.alloc (.cells #[.int .i64 0, .int .i64 0] 24)) HPz.out.len HPz.out.p)
      clear HP
      rcases idx_cases L ask with ⟨hix, hnx⟩ | ⟨j, y, hix, hjy⟩
      · rw [hix] at CA
        have HH := Lib.hid (show h ask = none from by
          cases e : h ask with
          | none => rfl
          | some y => exact absurd rfl (hnx _ ((HPz.out.rl.mem _ y).1 e)))
        clear hix hnx
        go_wp2_with fail
        refine CA.out.mono ?_; rintro e w3 ⟨rfl, hb3⟩
        have HP3 := Lib.hid (HPz.out.below hb3)
        have HBW3 := Lib.hid (HBz.out.below hb3 HBz.out.1)
        have HT3 := Lib.hid HP3.out.tab
        have HBL3 := Lib.hid HP3.out.bel
        clear CA hb3 HPz HBz e0 e1 e2 e3 HP3
        have CI := Lib.hid (in_any _ b k low many h ask w3 HT3.out HASK.out)
        have EC := Lib.hid (fun W hW => ER.out 5 W hW)
        rw [show atOf h ask = ⟨0, 0⟩ by unfold atOf; rw [HH.out]; rfl, show noneC h ask = 5 by unfold noneC; rw [HH.out]; rfl] at CI
        generalize er 5 = ve at CI EC
        clear HASK
        go_wp2_with fail
        refine CI.out.mono ?_; rintro e w4 ⟨rfl, hb4⟩
        have HBL4 := Lib.hid (bcall HBL3.out hb4)
        have HBW4 := Lib.hid ((HBW3.out.below hb4 HBW3.out.1).alloc (.cells #[.int .i64 0, .int .i64 0] 24))
        have HBP4 := Lib.hid (Box.new w4 ⟨0, 0⟩ 24)
        have HB4 := Lib.hid (bcall HBL4.out (balloc (brefl w4) (.cells #[.int .i64 0, .int .i64 0] 24)))
        have E : ∀ W, (Op.equalIn 10000 24 (.agg #[.int .i64 0, .int .i64 0]) (.agg #[.int .i64 0, .int .i64 0])).run Tryd.prog W = .ok true W := fun W => by rw [eqX]; simp
        clear hb4 CI HT3 HBL3 HBW3 HBL4 HH
        go_wp2_with (go_at_call 15
                     refine (EC.out _ HB4.out).mono ?_; rintro e w6 ⟨rfl, hb6⟩
                     have hA := HBW4.out.below hb6 HBW4.out.1
                     have hB := HBP4.out.below hb6 HBP4.out.1
                     have a0 := hA.2.1
                     have a1 := hA.2.2
                     have a2 := hB.2.1
                     have a3 := hB.2.2
                     have HB6 := Lib.hid (bcall HB4.out hb6)
                     clear hb6 hA hB)
        go_ret
        exact ⟨by first | rfl | simp, HB6.out⟩
      · rw [hix] at CA
        have t3 : decide ((j : Int) ≥ 0) = true := decide_eq_true (by omega)
        have t4 : decide (0 ≤ (j : Int)) = true := t3
        have HH := Lib.hid ((HPz.out.rl.mem _ y).2 (List.mem_of_getElem? hjy))
        have hjl := lt_of_at hjy
        have hjn : (j : Int) < (n : Int) := by have := HPz.out.len; omega
        have hlen9 : n ≤ 30 := by rw [HPz.out.len]; exact HPz.out.rl.few HPz.out.tb
        obtain ⟨b9, o9, rfl, hcp⟩ := places_both HPz.out.l (by rw [List.length_map]; omega)
        have HCP := Lib.hid (fun W hW => hcp W hW j y (snd_at hjy))
        obtain ⟨y1, y2⟩ := y
        clear hix hjy hjl hcp
        go_wp2_with fail
        refine CA.out.mono ?_; rintro e w3 ⟨rfl, hb3⟩
        have HP3 := Lib.hid (HPz.out.below hb3)
        have hkz3 := HKz.out.below hb3
        have hcc := HCP.out w3 hb3
        have p0 : w3.cell? ⟨b9, o9 + j * 2, none⟩ = some (.int .i64 y1) := hcc.1
        have p1 : w3.cell? ⟨b9, o9 + j * 2 + 1, none⟩ = some (.int .i64 y2) := hcc.2
        have e3 := HP3.out.x.cell 3 _ rfl
        have z0 := hkz3.cell 0 _ rfl
        have z1 := hkz3.cell 1 _ rfl
        have f0 := hkz3.fz 0
        have f1 := hkz3.fz 1
        have hgle : w.heap.size ≤ wr.heap.size := HBEL.out.size
        have ht3 := HTz.out.below hb3
        have hg1 := set_grown w3 wr.heap.size 0 (.int .i64 y1)
        have hg2 := set_grown (w3.setCell ⟨wr.heap.size, 0, none⟩ (.int .i64 y1)) wr.heap.size 1 (.int .i64 y2)
        have ht4 := ht3.more hg1 (fun k e => by injection e with e; exact .inr e.symm) (fun k hk => ⟨.inl hk, Nat.lt_of_lt_of_le (ht3.xl k hk) hg1.size⟩)
        have HT3 := Lib.hid (ht4.more hg2 (fun k e => by injection e with e; exact .inr e.symm) (fun k hk => ⟨.inl hk, Nat.lt_of_lt_of_le (ht4.xl k hk) hg2.size⟩))
        have HBL3 := Lib.hid (below_set (below_set HP3.out.bel wr.heap.size 0 (.int .i64 y1) hgle) wr.heap.size 1 (.int .i64 y2) hgle)
        have hk5 := (hkz3.set 0 (.int .i64 y1)).set 1 (.int .i64 y2)
        have HBW3 : Hid (Box ((w3.setCell ⟨wr.heap.size, 0, none⟩ (.int .i64 y1)).setCell ⟨wr.heap.size, 1, none⟩ (.int .i64 y2)) wr.heap.size ⟨y1, y2⟩) := Lib.hid ⟨hk5.lt, hk5.cell 0 _ rfl, hk5.cell 1 _ rfl⟩
        clear CA hb3 HPz HBz e0 e1 e2 hcc hkz3 ht3 ht4 hg1 hg2 hk5 HP3 HTz HKz
        go_wp2_with fail
        generalize (w3.setCell ⟨wr.heap.size, 0, none⟩ (.int .i64 y1)).setCell ⟨wr.heap.size, 1, none⟩ (.int .i64 y2) = w5 at HT3 HBL3 HBW3 ⊢
        generalize wr.heap.size = g5 at HBW3 ⊢
        clear p0 p1 e3 z0 z1 f0 f1
        have CI := Lib.hid (in_any _ b k low many h ask w5 HT3.out HASK.out)
        have EC := Lib.hid (fun W hW => ER.out 0 W hW)
        rw [show atOf h ask = ⟨y1, y2⟩ by unfold atOf; rw [HH.out]; rfl, show noneC h ask = 0 by unfold noneC; rw [HH.out]; rfl] at CI
        rw [er_0] at CI EC
        clear HASK
        go_wp2_with fail
        refine CI.out.mono ?_; rintro e w4 ⟨rfl, hb4⟩
        have HBL4 := Lib.hid (bcall HBL3.out hb4)
        have HBW4 := Lib.hid ((HBW3.out.below hb4 HBW3.out.1).alloc (.cells #[.int .i64 y1, .int .i64 y2] 24))
        have HBP4 := Lib.hid (Box.new w4 ⟨y1, y2⟩ 24)
        have HB4 := Lib.hid (bcall HBL4.out (balloc (brefl w4) (.cells #[.int .i64 y1, .int .i64 y2] 24)))
        have E : ∀ W, (Op.equalIn 10000 24 (.agg #[.int .i64 y1, .int .i64 y2]) (.agg #[.int .i64 y1, .int .i64 y2])).run Tryd.prog W = .ok true W := fun W => by rw [eqX]; simp
        clear hb4 CI HT3 HBL3 HBW3 HBL4 HH
        go_wp2_with (go_at_call 15
                     refine (EC.out _ HB4.out).mono ?_; rintro e w6 ⟨rfl, hb6⟩
                     have hA := HBW4.out.below hb6 HBW4.out.1
                     have hB := HBP4.out.below hb6 HBP4.out.1
                     have a0 := hA.2.1
                     have a1 := hA.2.2
                     have a2 := hB.2.1
                     have a3 := hB.2.2
                     have HB6 := Lib.hid (bcall HB4.out hb6)
                     clear hb6 hA hB)
        go_ret
        exact ⟨by first | rfl | simp, HB6.out⟩

theorem reads : Tryd.f6.params.toList.all (fun t => Tryd.prog.readableRec t && decide (t < Tryd.prog.types.size)) = true := by kernel_rfl
theorem et : Tryd.prog.globalNamed "errors.errorType" = some 0 := by kernel_rfl
theorem rt : (Tryd.prog.cutTypes.find? (·.1 == "internal/reflectlite.rtype")).map (·.2) = some 102 := by kernel_rfl
theorem oneRow : ((List.range Tryd.prog.types.size).filter fun t => Tryd.prog.rowNamed t [101, 114, 114, 111, 114]) = [28] := by kernel_rfl

theorem handle_of_laid {W : World} (h : laidMetH Tryd.prog Rows.natPlaysRow.laid W) : Handle W := by
  have h' : laidMet Tryd.prog [] W ∧ handlesMet Tryd.prog Rows.natPlaysRow.laid W := h
  obtain ⟨name, u, ty, e1, e2, e3, e4, e5⟩ := h'.2 _ (List.mem_singleton.2 rfl)
  have en : name = [101, 114, 114, 111, 114] := (Option.some.inj e1).symm
  subst en
  obtain rfl := Option.some.inj (rt.symm.trans e2)
  have hm : ty ∈ (List.range Tryd.prog.types.size).filter fun t => Tryd.prog.rowNamed t [101, 114, 114, 111, 114] := List.mem_filter.2 ⟨List.mem_range.2 e3, e4⟩
  rw [oneRow] at hm
  obtain rfl := List.mem_singleton.1 hm
  have hh : typeHandle Tryd.prog 28 = .pointer (some ⟨1, 28, none⟩) := by kernel_rfl
  rw [hh] at e5
  have e6 := World.var?_cell et e5 0
  unfold Handle
  simpa using e6

noncomputable def laidWorld (os : Os) : World :=
  { World.holding Tryd.prog os ⟨#[], #[], []⟩ with heap := (World.holding Tryd.prog os ⟨#[], #[], []⟩).heap.modify 0 fun
      | .cells _ t frozen => .cells #[.iface 102 (.agg #[.pointer (some ⟨1, 28, none⟩)])] t frozen
      | o => o }
theorem laid_met (os : Os) : laidMetH Tryd.prog Rows.natPlaysRow.laid ((laidWorld os).forCall (fun _ _ => 0) ⟨#[], #[.int .i64 0, .int .i64 0, .slice none 0 0, .int .i64 0], []⟩).memory :=
  laidMetH_of_parts (laidMet_nil _ _) (by kernel_rfl)
theorem reads_wit (os : Os) {H : Type} (enc : TypeId × Value → H) : ∃ places, DataW.whole enc Tryd.prog ((laidWorld os).forCall (fun _ _ => 0) ⟨#[], #[.int .i64 0, .int .i64 0, .slice none 0 0, .int .i64 0], []⟩).memory Tryd.f6.params.toList Rows.natPlaysSpec.vars false (#[.int .i64 0, .int .i64 0, .slice none 0 0, .int .i64 0] : Array Value).toList 8 = some ([.lit (.int .i64 0), .lit (.int .i64 0), .nil, .lit (.int .i64 0)], [], places) :=
  ⟨[], by kernel_rfl⟩

theorem contract (H : Type) (enc : TypeId × Value → H) (W : World) (base : Nat) (args : Array Value) (ds gs : List (DataW H)) (before : List MemPlace)
    (hval : ∀ (j : Nat) t v, Tryd.f6.params[j]? = some t → args[j]? = some v → Value.okWide Tryd.prog W .any base t v)
    (hW : DataW.Whole enc Tryd.prog Tryd.f6.params.toList Rows.natPlaysSpec.vars false W args.toList ds gs before) (hL : laidMetH Tryd.prog Rows.natPlaysRow.laid W) :
    Calls Tryd.prog 6 args W fun e W' => ∃ v, e = .returned v ∧ Rows.natPlaysSpec.post enc Tryd.prog Tryd.f6 false true false false W args v W' := by
  have hW' := hW
  have hg := handle_of_laid hL
  obtain ⟨p, q, hA0, hV, rfl, hfz, hnd⟩ := hW
  have hA : DataW.TrodAll enc Tryd.prog W 0 (fun _ => true) true Tryd.f6.params.toList args.toList ds p := hA0
  have hlt := hA.lt
  rw [Tryd.params6] at hA hval
  obtain ⟨v0, vs0, d0, ds0, p0, q0, hargs, rfl, rfl, h0, r0⟩ := trodAll_cons hA
  obtain ⟨v1, vs1, d1, ds1, p1, q1, hvs1, rfl, rfl, h1, r1⟩ := trodAll_cons r0
  obtain ⟨v2, vs2, d2, ds2, p2, q2, hvs2, rfl, rfl, h2, r2⟩ := trodAll_cons r1
  obtain ⟨v3, vs3, d3, ds3, p3, q3, hvs3, rfl, rfl, h3, r3⟩ := trodAll_cons r2
  obtain ⟨hvsn, rfl, rfl⟩ := trodAll_nil r3
  simp only [hvsn, hvs3, hvs2, hvs1] at hargs
  obtain rfl : args = #[v0, v1, v2, v3] := by cases args; simp_all
  obtain ⟨a0, rfl, rfl, rfl, w0⟩ := open_int Tryd.underlying3 (hval 0 3 v0 rfl rfl) h0
  have b0 := bounds_int w0
  obtain ⟨a1, rfl, rfl, rfl, w1⟩ := open_int Tryd.underlying3 (hval 1 3 v1 rfl rfl) h1
  have b1 := bounds_int w1
  obtain ⟨p2a, cap2, l2, rfl, i2, e2⟩ := open_rows Tryd.underlying22 Tryd.underlying35 Tryd.underlying3 (by kernel_rfl) (by kernel_rfl) (hval 2 22 v2 rfl rfl) h2 (fun x hx => hlt x (by simp [hx]))
  obtain ⟨a3, rfl, rfl, rfl, w3⟩ := open_int Tryd.underlying3 (hval 3 3 v3 rfl rfl) h3
  have b3 := bounds_int w3
  obtain ⟨rfl, rfl⟩ := trodVars_none hV
  clear hA0
  exact law_post 4 laid reads rfl Tryd.underlying4 rfl hW' ⟨rfl, rfl, rfl⟩ (by
    by_cases h : okN a0 a1
    · obtain ⟨low, rfl⟩ : ∃ n : Nat, a0 = n := ⟨a0.toNat, by have := h.1.1; omega⟩
      obtain ⟨many, rfl⟩ : ∃ n : Nat, a1 = n := ⟨a1.toNat, by have := h.2.1; omega⟩
      exact law_good low many _ _ _ l2 a3 W hg (by have := h.2.1; omega) (by have := h.2.2.1; omega) (by have := h.2.2.2; omega) rfl i2 w3
    · exact law_bad a0 a1 _ _ _ a3 W hg h)

set_option maxRecDepth 100000 in
theorem lifted (os : Os) (started : os.Started) (H : Type) (enc : TypeId × Value → H) (F : Stop.Interp) :
    ReturnsInHanded {} Tryd.checked os 6 .any ((OpenSpec.ofChange Rows.natPlaysSpec).preRow enc Tryd.prog Tryd.f6 Rows.natPlaysRow.domain false Rows.natPlaysRow.laid) (((OpenSpec.ofChange Rows.natPlaysSpec).at F).post enc Tryd.prog Tryd.f6 false true false false) := by
  obtain ⟨places, hx⟩ := reads_wit os enc
  refine returnsInHanded_of_row (C := Tryd.checked) (s := (OpenSpec.ofChange Rows.natPlaysSpec)) own started (by kernel_rfl) Tryd.func6
    (witness_row_at (enc := enc) (C := Tryd.checked) false (laidWorld os) #[.int .i64 0, .int .i64 0, .slice none 0 0, .int .i64 0] rfl (by kernel_rfl) (by kernel_rfl) (by kernel_rfl)
      (OpenSpec.preRow_of_cond 8 hx (by kernel_rfl) (fun k hk => by cases hk) (by kernel_rfl) (laid_met os))) ?_
  intro W base args ds gs before hval hW _ hcond _ hL _ _
  exact contract H enc W base args ds gs before hval hW hL

theorem said : Rows.NatPlaysSaid :=
  OpenClaim.holds_of_cond 6 Tryd.f6 rfl rfl rfl rfl rfl rfl rfl ⟨rfl, rfl, rfl, rfl, rfl⟩ rfl rfl rfl rfl rfl (by kernel_rfl) Tryd.func6 (by kernel_rfl)
    (of_decide_eq_true (by kernel_rfl)) (by unfold Func.isWrapper; first | (rw [if_pos (by decide +kernel)]; kernel_rfl) | (rw [if_neg (by decide +kernel)]; exact ⟨rfl, rfl⟩))
    (fun os started H enc _ F => by rw [OpenClaim.pre_eq_preRow]; exact lifted os started H enc F)

theorem plain (f : FuncId) (fn : Func) (hf : Tryd.pinned.checked.prog.funcNamed Rows.natPlaysRow.func = some f) (hfn : Tryd.pinned.checked.prog.funcs[f]? = some fn) :
    true = Tryd.pinned.checked.prog.looks [] ∧ ∀ (j : Nat) t, fn.params[j]? = some t → Tryd.pinned.checked.prog.wantsStandIn t = false := by
  obtain rfl : f = 6 := Option.some.inj ((show Tryd.prog.funcNamed Rows.natPlaysRow.func = some 6 by kernel_rfl).symm.trans hf) |>.symm
  obtain rfl : fn = Tryd.f6 := (Option.some.inj (Tryd.func6.symm.trans hfn)).symm
  refine ⟨by kernel_rfl, fun j t ht => ?_⟩
  have hall : Tryd.f6.params.toList.all (fun t => !Tryd.prog.wantsStandIn t) = true := by kernel_rfl
  have hm : t ∈ Tryd.f6.params.toList := by simpa using Array.mem_of_getElem? ht
  have := List.all_eq_true.1 hall t hm
  show Tryd.prog.wantsStandIn t = false
  simpa using this

theorem proved : Rows.NatPlaysCardSaid :=
  Claim7.holds_tied_plain_at .later [] _ _ _ _ said (fun _ h => by cases h) (by kernel_rfl) (fun _ h => by cases h) natPlays_row_tie rfl ⟨rfl, rfl⟩ (by kernel_rfl) rfl plain (by kernel_rfl)
end Go.Proofs.YtlojehakifagbaaDoor.NatPlaysL
