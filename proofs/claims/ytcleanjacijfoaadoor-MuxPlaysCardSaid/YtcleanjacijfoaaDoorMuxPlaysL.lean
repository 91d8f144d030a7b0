/- MuxPlays: for any frames, and any reads behind them, all that is told, read and waits is as specified: for every input, the row's handle laid as the card says. -/
import Derived.Test.YtcleanjacijfoaaDoorCards
import Derived.Test.YtcleanjacijfoaaDoorTie
import Derived.Deep.DeepHandedRow
import Derived.Lib.LaidTab
import Derived.LaidHandle
import Derived.SevenTiedAt
import Derived.Test.YtcleanjacijfoaaDoorMuxPair
import Derived.Test.YtcleanjacijfoaaDoorMuxFact
import Derived.Test.YtcleanjacijfoaaDoorErrSame
import Derived.BigQuiet
import Derived.Deep.RegionLaw
import Derived.Deep.RegionHeld
import Derived.OrdersHeld
namespace Go.Proofs.YtcleanjacijfoaaDoor.MuxPlaysL
open Go.ChangeShapes Go.WideShapes Go.ChangeAt Go.RowKit
open Go.Proofs.YtcleanjacijfoaaDoor.Kit Go.Proofs.YtcleanjacijfoaaDoor.App Go.Proofs.YtcleanjacijfoaaDoor.Cells Go.Proofs.YtcleanjacijfoaaDoor.Err Go.Proofs.YtcleanjacijfoaaDoor.As Go.Proofs.YtcleanjacijfoaaDoor.Mux
set_option linter.unusedVariables false
set_option maxRecDepth 20000
set_option maxHeartbeats 40000000

theorem law_any (p p2 : Option Addr) (cap cap2 : Nat) (ls : List Frm) (rs : List Int) (w : World) (hg : Handle w) (hi : CI lay w p cap ls) (hi2 : Ints w p2 cap2 rs) (hfit : ∀ x ∈ ls, Mux.Fits x) :
    Calls Tryd.prog 4 #[.slice p ls.length cap, .slice p2 rs.length cap2] w fun e w' => e = .returned (.bool true) ∧ Below w.heap.size w w' := by
  have HI := Lib.hid hi
  have HI2 := Lib.hid hi2
  have HFIT := Lib.hid hfit
  have hlen := hi.len_le
  have hlen2 := hi2.len_le
  have ER := Lib.hid (fun c W (hW : Below w.heap.size w W) => err_same c W (hg.below hW))
  have hmix : Tryd.prog.follows .mixedOrders = true := by kernel_rfl
  clear hi hi2 hfit hg
  go_enter Tryd.func4, Tryd.ntmps4
  go_wp2_with fail
  refine (new_any _).mono ?_; rintro e w1 ⟨rfl, hE1, hb1⟩
  obtain ⟨g, hg⟩ : ∃ g, w.heap.size = g := ⟨_, rfl⟩
  rw [hg] at hE1 ⊢
  have HE1 := Lib.hid (show Mux.Ends w1 g (fun _ => 0) (fun _ => 0) from hE1)
  have HB1 := Lib.hid hb1
  have HG := Lib.hid (Nat.le_of_eq hg)
  clear hE1 hb1 hg
  go_wp2_with fail
  refine (rnew_any _).mono ?_; rintro e w2 ⟨pd0, cd0, pr0, cr0, rfl, hm2, hb2, ha2, ha3⟩
  have HP0 := Lib.hid (Pm.start HE1.out HB1.out HG.out hb2 hm2 ha2 ha3)
  have HO0 := Lib.hid Okm.zero
  clear hm2 hb2 ha2 ha3 HE1 HB1 HG
  go_wp2_with fail
  generalize w2.alloc (.cells #[.slice pd0 800 cd0, .slice pr0 4 cr0] 39) = w3 at HP0 ⊢
  generalize w2.heap.size = xb at HP0 ⊢
  obtain ⟨n0, hn⟩ : ∃ n, ls.length = n := ⟨_, rfl⟩
  obtain ⟨m0, hm⟩ : ∃ n, rs.length = n := ⟨_, rfl⟩
  rw [hn] at hlen ⊢
  rw [hm] at hlen2 ⊢
  have HN := Lib.hid hn
  have HN2 := Lib.hid hm
  clear hn hm
  go_loopw [7] (fun iv wr => ∃ (k : Nat) (pd : Option Addr) (cd : Nat) (pr : Option Addr) (cr : Nat) (d r : Nat → Nat), k ≤ n0 ∧ k ≤ 30 ∧ iv = .int .i64 (k : Int) ∧ Hid (Pm w wr g xb pd cd pr cr d r d r) ∧ Hid (Okm d r)) (fun i _ => 30 - (intOf i).toNat)
  case atStart => exact ⟨0, pd0, cd0, pr0, cr0, _, _, Nat.zero_le _, Nat.zero_le _, rfl, HP0, HO0⟩
  case round =>
    clear HP0 HO0
    obtain ⟨k, pd, cd, pr, cr, d, r, hkn, hk30, rfl, HP, HO⟩ := hrel
    by_cases h1 : k < n0
    · have u1 : decide ((k : Int) < (n0 : Int)) = true := decide_eq_true (by omega)
      by_cases h2 : k < 30
      · have u2 : decide ((k : Int) < 30) = true := decide_eq_true (by omega)
        obtain ⟨b, off, rfl, hbl, hcf⟩ := HI.out.2.2 (by rw [HN.out]; omega)
        obtain ⟨x, hx⟩ : ∃ x, ls[k]? = some x := ⟨_, List.getElem?_eq_getElem (by rw [HN.out]; exact h1)⟩
        have hfit := HFIT.out x (List.mem_of_getElem? hx)
        have HFR : Hid (∀ W, Below w.heap.size w W → W.cell? ⟨b, off + k * 3, none⟩ = some (.int .i64 x.st) ∧ W.cell? ⟨b, off + k * 3 + 1, none⟩ = some (.int .i64 x.pos) ∧ W.cell? ⟨b, off + k * 3 + 2, none⟩ = some (.string x.dat)) := Lib.hid (fun W hW => ⟨(hW.cell (p := ⟨b, off + k * 3, none⟩) hbl).trans (hcf k x hx 0 _ rfl), (hW.cell (p := ⟨b, off + k * 3 + 1, none⟩) hbl).trans (hcf k x hx 1 _ rfl), (hW.cell (p := ⟨b, off + k * 3 + 2, none⟩) hbl).trans (hcf k x hx 2 _ rfl)⟩)
        clear hcf hx hbl
        have CD := Lib.hid (fun W (hW : Pm w W g xb pd cd pr cr d r d r) => rput_any x W hW.m HO.out hfit.2.2)
        obtain ⟨cc, hcc⟩ : ∃ cc, codeM d x = cc := ⟨_, rfl⟩
        obtain ⟨D, hD⟩ : ∃ D, putM d x = D := ⟨_, rfl⟩
        have HCC := Lib.hid hcc
        have HD := Lib.hid hD
        have PP := Lib.hid (fun W (H : Mux.Ends W g d r) => put_any g d r x W H cc hcc D hD)
        have HO2 : Hid (Okm D r) := Lib.hid (by rw [← hD]; exact HO.out.put x)
        unfold MputP at CD
        rw [hcc, hD] at CD
        unfold val at PP
        clear hcc hD hfit
        obtain ⟨xa, xc, xs⟩ := x
        simp only at CD PP HFR
        have q := HFR.out wr HP.out.bel
        have e0 := HP.out.x.cell 0 _ rfl
        have e1 := HP.out.x.cell 1 _ rfl
        go_wp2_with fail
        refine wp_region_held_drew (S := (fun W' => W'.cell? ⟨xb, 0, none⟩ = some (.slice pd 800 cd) ∧ W'.cell? ⟨xb, 1, none⟩ = some (.slice pr 4 cr) ∧ W'.cell? ⟨b, off + k * 3, none⟩ = some (.int .i64 xa) ∧ W'.cell? ⟨b, off + k * 3 + 1, none⟩ = some (.int .i64 xc) ∧ W'.cell? ⟨b, off + k * 3 + 2, none⟩ = some (.string xs))) (by kernel_rfl) ⟨e0, e1, q⟩ (fun hHeld => ?_)
        refine wpAnyH_take (i := 0) (oi := ⟨some 28, _, _, _, _, _⟩) (v := ?vr10) rfl (by kernel_rfl) (by kernel_rfl) (by kernel_rfl) (fun _ _ _ h => h) (Or.inl ⟨by rfl, ?hyr10⟩) hHeld ?restr10
        case hyr10 => (intro W hSw; (try dsimp only at hSw); (try obtain ⟨hSw1, hSw2⟩ := hSw); (try obtain ⟨hSw2, hSw3⟩ := hSw2); (try obtain ⟨hSw3, hSw4⟩ := hSw3); (try obtain ⟨hSw4, hSw5⟩ := hSw4); go_simp; first | done | with_reducible rfl)
        simp only [Act.put, List.setIfInBounds_toArray, List.set_cons_zero, List.set_cons_succ]
        refine wpAnyH_take (i := 1) (oi := ⟨some 29, _, _, _, _, _⟩) (v := ?vr11) rfl (by kernel_rfl) (by kernel_rfl) (by kernel_rfl) (fun _ _ _ h => h) (Or.inl ⟨by rfl, ?hyr11⟩) hHeld ?restr11
        case hyr11 => (intro W hSw; (try dsimp only at hSw); (try obtain ⟨hSw1, hSw2⟩ := hSw); (try obtain ⟨hSw2, hSw3⟩ := hSw2); (try obtain ⟨hSw3, hSw4⟩ := hSw3); (try obtain ⟨hSw4, hSw5⟩ := hSw4); go_simp; first | done | with_reducible rfl)
        simp only [Act.put, List.setIfInBounds_toArray, List.set_cons_zero, List.set_cons_succ]
        refine wpAnyH_take (i := 2) (oi := ⟨some 30, _, _, _, _, _⟩) (v := ?vr12) rfl (by kernel_rfl) (by kernel_rfl) (by kernel_rfl) (fun _ _ _ h => h) (Or.inl ⟨by rfl, ?hyr12⟩) hHeld ?restr12
        case hyr12 => (intro W hSw; (try dsimp only at hSw); (try obtain ⟨hSw1, hSw2⟩ := hSw); (try obtain ⟨hSw2, hSw3⟩ := hSw2); (try obtain ⟨hSw3, hSw4⟩ := hSw3); (try obtain ⟨hSw4, hSw5⟩ := hSw4); go_simp; first | done | with_reducible rfl)
        simp only [Act.put, List.setIfInBounds_toArray, List.set_cons_zero, List.set_cons_succ]
        refine wpAnyH_take (i := 3) (oi := ⟨some 31, _, _, _, _, _⟩) (v := ?vr13) rfl (by kernel_rfl) (by kernel_rfl) (by kernel_rfl) (fun _ _ _ h => h) (Or.inl ⟨by rfl, ?hyr13⟩) hHeld ?restr13
        case hyr13 => (intro W hSw; (try dsimp only at hSw); (try obtain ⟨hSw1, hSw2⟩ := hSw); (try obtain ⟨hSw2, hSw3⟩ := hSw2); (try obtain ⟨hSw3, hSw4⟩ := hSw3); (try obtain ⟨hSw4, hSw5⟩ := hSw4); go_simp; first | done | with_reducible rfl)
        simp only [Act.put, List.setIfInBounds_toArray, List.set_cons_zero, List.set_cons_succ]
        refine wpAnyH_take (i := 4) (oi := ⟨some 32, _, _, _, _, _⟩) (v := ?vr14) rfl (by kernel_rfl) (by kernel_rfl) (by kernel_rfl) (fun _ _ _ h => h) (Or.inl ⟨by rfl, ?hyr14⟩) hHeld ?restr14
        case hyr14 => (intro W hSw; (try dsimp only at hSw); (try obtain ⟨hSw1, hSw2⟩ := hSw); (try obtain ⟨hSw2, hSw3⟩ := hSw2); (try obtain ⟨hSw3, hSw4⟩ := hSw3); (try obtain ⟨hSw4, hSw5⟩ := hSw4); go_simp; first | done | with_reducible rfl)
        simp only [Act.put, List.setIfInBounds_toArray, List.set_cons_zero, List.set_cons_succ]
        refine wpAnyH_ready (rs := [5, 9]) (by kernel_rfl) (by simp) ?_
        refine AllReadyH.cons (o := ⟨some 33, _, _, _, _, _⟩) rfl (fun KK hK => ?_) (AllReadyH.cons (o := ⟨some 8, _, _, _, _, _⟩) rfl (fun KK hK => ?_) AllReadyH.nil)
        · go_simp
          refine (CD.out wr.drew HP.out.drew).mono ?_; rintro e w6 ⟨pd2, cd2, rfl, hm6, ha6, hb6⟩
          have hb6 : Below wr.heap.size wr w6 := ⟨hb6.os, hb6.tape, hb6.output, hb6.size, hb6.block⟩
          have ha6 : ∀ a, pd2 = some a → pd = some a ∨ (wr.heap.size ≤ a.block ∧ a.block < w6.heap.size) := ha6
          have HX6 := Lib.hid (HP.out.x.below hb6)
          have hq6 := HFR.out w6 (bcall HP.out.bel hb6)
          go_wp2_with fail
          refine hK.out _ _ (⟨HX6.out.cell 0 _ rfl, HX6.out.cell 1 _ rfl, HFR.out _ (bcall HP.out.bel hb6)⟩) (fun hHeld2 => ?_)
          clear hK KK
          try simp only [Act.put, List.setIfInBounds_toArray, List.set_cons_zero, List.set_cons_succ]
          refine wpAnyH_take (i := 6) (oi := ⟨some 27, _, _, _, _, _⟩) (v := ?vr26) rfl (by kernel_rfl) (by kernel_rfl) (by kernel_rfl) (fun _ _ _ h => h) (Or.inl ⟨by rfl, ?hyr26⟩) hHeld2 ?restr26
          case hyr26 => (intro W hSw; (try dsimp only at hSw); (try obtain ⟨hSw1, hSw2⟩ := hSw); (try obtain ⟨hSw2, hSw3⟩ := hSw2); (try obtain ⟨hSw3, hSw4⟩ := hSw3); (try obtain ⟨hSw4, hSw5⟩ := hSw4); go_simp; first | done | with_reducible rfl)
          simp only [Act.put, List.setIfInBounds_toArray, List.set_cons_zero, List.set_cons_succ]
          refine wpAnyH_take (i := 7) (oi := ⟨some 34, _, _, _, _, _⟩) (v := ?vr27) rfl (by kernel_rfl) (by kernel_rfl) (by kernel_rfl) (fun _ _ _ h => h) (Or.inl ⟨by rfl, ?hyr27⟩) hHeld2 ?restr27
          case hyr27 => (intro W hSw; (try dsimp only at hSw); (try obtain ⟨hSw1, hSw2⟩ := hSw); (try obtain ⟨hSw2, hSw3⟩ := hSw2); (try obtain ⟨hSw3, hSw4⟩ := hSw3); (try obtain ⟨hSw4, hSw5⟩ := hSw4); go_simp; first | done | with_reducible rfl)
          simp only [Act.put, List.setIfInBounds_toArray, List.set_cons_zero, List.set_cons_succ]
          refine wpAnyH_take (i := 8) (oi := ⟨some 35, _, _, _, _, _⟩) (v := ?vr28) rfl (by kernel_rfl) (by kernel_rfl) (by kernel_rfl) (fun _ _ _ h => h) (Or.inl ⟨by rfl, ?hyr28⟩) hHeld2 ?restr28
          case hyr28 => (intro W hSw; (try dsimp only at hSw); (try obtain ⟨hSw1, hSw2⟩ := hSw); (try obtain ⟨hSw2, hSw3⟩ := hSw2); (try obtain ⟨hSw3, hSw4⟩ := hSw3); (try obtain ⟨hSw4, hSw5⟩ := hSw4); go_simp; first | done | with_reducible rfl)
          simp only [Act.put, List.setIfInBounds_toArray, List.set_cons_zero, List.set_cons_succ]
          refine wpAnyH_ready (rs := [9]) (by kernel_rfl) (by simp) ?_
          refine AllReadyH.cons (o := ⟨some 8, _, _, _, _, _⟩) rfl (fun KK2 hK2 => ?_) AllReadyH.nil
          go_simp
          have hb8 := balloc hb6 (.cells #[.slice none 0 0, .slice none 0 0] 39)
          refine hK2.out _ _ (⟨(HX6.out.alloc _).cell 0 _ rfl, (HX6.out.alloc _).cell 1 _ rfl, HFR.out _ (bcall HP.out.bel hb8)⟩) (fun hHeld3 => ?_)
          clear hK2 KK2 hb8
          try simp only [Act.put, List.setIfInBounds_toArray, List.set_cons_zero, List.set_cons_succ]
          refine wpAnyH_ready (rs := [10]) (by kernel_rfl) (by simp) ?_
          refine AllReadyH.cons (o := ⟨none, _, _, _, _, _⟩) rfl (fun KK3 hK3 => ?_) AllReadyH.nil
          have HZ9 := Lib.hid (Blk.new w6 39 [.slice pd2 800 cd2, .slice pr 4 cr])
          have HB9 := Lib.hid (balloc hb6 (.cells #[.slice pd2 800 cd2, .slice pr 4 cr] 39))
          have HM9 := Lib.hid (hm6.below (balloc (brefl w6) (.cells #[.slice pd2 800 cd2, .slice pr 4 cr] 39)))
          have HA9 : Hid (∀ a, pd2 = some a → pd = some a ∨ (wr.heap.size ≤ a.block ∧ a.block < (w6.alloc (.cells #[.slice pd2 800 cd2, .slice pr 4 cr] 39)).heap.size)) := Lib.hid (fun a e => (ha6 a e).imp id (fun h => ⟨h.1, by simp; omega⟩))
          have HX9 := Lib.hid (HX6.out.alloc (.cells #[.slice pd2 800 cd2, .slice pr 4 cr] 39))
          clear hb6 hm6 ha6
          go_simp
          refine hK3.out _ _ (⟨HX9.out.cell 0 _ rfl, HX9.out.cell 1 _ rfl, HFR.out _ (bcall HP.out.bel HB9.out)⟩) (fun hHeld4 => ?_)
          clear hK3 KK3
          try simp only [Act.put, List.setIfInBounds_toArray, List.set_cons_zero, List.set_cons_succ]
          refine wpAnyH_take (i := 11) (oi := ⟨some 9, _, _, _, _, _⟩) (v := ?vr311) rfl (by kernel_rfl) (by kernel_rfl) (by kernel_rfl) (fun _ _ _ h => h) (Or.inl ⟨by rfl, ?hyr311⟩) hHeld4 ?restr311
          case hyr311 => (intro W hSw; (try dsimp only at hSw); (try obtain ⟨hSw1, hSw2⟩ := hSw); (try obtain ⟨hSw2, hSw3⟩ := hSw2); (try obtain ⟨hSw3, hSw4⟩ := hSw3); (try obtain ⟨hSw4, hSw5⟩ := hSw4); go_simp; first | done | with_reducible rfl)
          simp only [Act.put, List.setIfInBounds_toArray, List.set_cons_zero, List.set_cons_succ]
          refine wpAnyH_done (by kernel_rfl) ?_ _
          generalize w6.heap.size = g9 at HZ9 ⊢
          generalize w6.alloc (.cells #[.slice pd2 800 cd2, .slice pr 4 cr] 39) = w9 at HZ9 HB9 HM9 HA9 HX9 ⊢
          clear HX6 hq6
          clear hHeld hHeld2 hHeld3 hHeld4 CD q e0 e1
          have HP10 := Lib.hid (HP.out.store HB9.out HM9.out HA9.out (fun a e => .inl e))
          have e0 := HX9.out.cell 0 _ rfl
          have e1 := HX9.out.cell 1 _ rfl
          have f0 := HX9.out.fz 0
          have f1 := HX9.out.fz 1
          have z0 := HZ9.out.cell 0 _ rfl
          have z1 := HZ9.out.cell 1 _ rfl
          have q10 := HFR.out _ HP10.out.bel
          unfold put2 at HP10 q10
          clear HX9 HZ9 HB9 HM9 HA9 HP
          go_wp2_with fail
          generalize (w9.setCell ⟨xb, 0, none⟩ (.slice pd2 800 cd2)).setCell ⟨xb, 1, none⟩ (.slice pr 4 cr) = w10 at HP10 q10 ⊢
          clear e0 e1 f0 f1 z0 z1
          refine (PP.out w10 HP10.out.en).mono ?_; rintro e w11 ⟨rfl, hE11, hg11⟩
          have HP11 := Lib.hid (HP10.out.turn hE11 hg11)
          have EC := Lib.hid (fun W hW => ER.out cc W hW)
          generalize er cc = ve at EC ⊢
          clear hE11 hg11 HP10 PP q10 HFR HCC HD
          go_wp2_with fail
          refine (EC.out w11 HP11.out.bel).mono ?_; rintro e w12 ⟨rfl, hb12⟩
          have HP := Lib.hid (HP11.out.below hb12)
          have HO := HO2
          clear hb12 HP11 EC HO2
          generalize pd2 = pd at HP
          generalize cd2 = cd at HP
          generalize D = d at HP HO
          by_cases hr1 : k < m0
          · have u3 : decide ((k : Int) < (m0 : Int)) = true := decide_eq_true (by omega)
            obtain ⟨b2, off2, rfl, hbl2, hcr⟩ := HI2.out.2.2.2 (by rw [HN2.out]; omega)
            obtain ⟨y, hy⟩ : ∃ y, rs[k]?.getD 0 = y := ⟨_, rfl⟩
            have HRR : Hid (∀ W, Below w.heap.size w W → W.cell? ⟨b2, off2 + k, none⟩ = some (.int .i64 y)) := Lib.hid (fun W hW => by rw [← hy]; exact (hW.cell (p := ⟨b2, off2 + k, none⟩) hbl2).trans (hcr k (by rw [HN2.out]; exact hr1)))
            have HBX : Hid (b2 ≠ xb) := Lib.hid (by have := HP.out.lx; have : b2 < w.heap.size := hbl2; omega)
            have HBG : Hid (b2 ≠ g) := Lib.hid (by have := HP.out.lg; have : b2 < w.heap.size := hbl2; omega)
            have y0 := HRR.out w12 HP.out.bel
            have EC := Lib.hid (fun W hW => ER.out (codeR y) W hW)
            have RP := Lib.hid (fun W (H : Mux.Ends W g d r) => read_any g d r HO.out y W H _ rfl _ rfl _ rfl)
            clear hcr hbl2 hy
            by_cases hs : isS y
            · have IN := Lib.hid (fun W => Ring.in_any y 0 3 W true (in_true hs))
              obtain ⟨n, rfl⟩ : ∃ n : Nat, y = (n : Int) := ⟨y.toNat, by have := hs.1; omega⟩
              have hn4 : n < 4 := by have := hs.2; omega
              have DN := Lib.hid (fun W (hW : Pm w W g xb pd cd pr cr d r d r) => rnext_any n W hn4 hW.m HO.out)
              have hcr0 : codeR (n : Int) = 0 := by unfold codeR; rw [if_pos hs]
              rw [hcr0] at EC RP
              have HO2 := Lib.hid (HO.out.read (n : Int))
              generalize textM d r (n : Int) = tx at DN RP
              generalize readR d r (n : Int) = R at DN RP HO2
              have v1 : (tx.toList == tx.toList) = true := by simp
              have v2 : (tx.toList != tx.toList) = false := by simp
              have e0 := HP.out.x.cell 0 _ rfl
              have e1 := HP.out.x.cell 1 _ rfl
              clear hcr0 hs
              go_wp2_with fail
              refine (IN.out _).mono ?_; rintro e w13 ⟨rfl, hw13⟩
              subst hw13
              go_wp2_with fail
              go_region_law (first
                | (go_simp; go_at_call 14; refine (DN.out _ HP.out.drew).mono ?_; rintro e w14 ⟨gn, cn, rfl, hm14, hgn1, hgn2, hb14⟩
                   have HPm := Lib.hid (HP.out.drew.store hb14 hm14 (fun a e => .inl e) (fun a e => .inr (by injection e with e; subst e; exact ⟨hgn1, hgn2⟩)))
                   have HX14 := Lib.hid (HP.out.drew.x.below hb14)
                   have e0 := HX14.out.cell 0 _ rfl
                   have e1 := HX14.out.cell 1 _ rfl
                   have f0 := HX14.out.fz 0
                   have f1 := HX14.out.fz 1))
              · clear e0 e1 f0 f1 HX14 hm14 hgn1 hgn2 hb14 HP DN
                unfold put2 at HPm
                generalize (w14.setCell ⟨xb, 0, none⟩ (.slice pd 800 cd)).setCell ⟨xb, 1, none⟩ (.slice (some ⟨gn, 0, none⟩) 4 cn) = w15 at HPm ⊢
                have y0 := HRR.out w15 HPm.out.bel
                go_wp2_with fail
                refine (RP.out _ HPm.out.en).mono ?_; rintro e w16 ⟨rfl, hE16, hg16⟩
                have HP16 := Lib.hid (HPm.out.turn hE16 hg16)
                generalize er 0 = ve at EC ⊢
                clear hE16 hg16 HPm RP y0
                go_wp2_with fail
                refine (EC.out _ HP16.out.bel).mono ?_; rintro e w17 ⟨rfl, hb17⟩
                have HP := Lib.hid (HP16.out.below hb17)
                have HO := HO2
                have HIN := Lib.hid HP.out
                clear hb17 HP16 EC HO2
                generalize (some ⟨gn, 0, none⟩ : Option Addr) = pr at HP HIN ⊢
                generalize cn = cr at HP HIN ⊢
                generalize R = r at HP HO HIN
                clear HIN
                go_wp2_with fail
                go_loopw [14] (fun jv wj => ∃ j : Nat, j ≤ 4 ∧ jv = .int .i64 (j : Int) ∧ Hid (Pm w wj g xb pd cd pr cr d r d r)) (fun j _ => 4 - (intOf j).toNat)
                case atStart => exact ⟨0, by omega, rfl, HP⟩
                case round =>
                  clear HP
                  obtain ⟨j, hj, rfl, HP⟩ := hrel
                  by_cases hj4 : j < 4
                  · have u5 : decide ((j : Int) < 4) = true := decide_eq_true (by omega)
                    have CW := Lib.hid (fun W (hW : Pm w W g xb pd cd pr cr d r d r) => waits_any g d r (j : Int) W hW.en HO.out (wait d (200 * j) (r j) : Int) (by unfold waitM; rw [if_pos (show isS (j : Int) from ⟨by omega, by omega⟩), Int.toNat_natCast]))
                    have DW := Lib.hid (fun W (hW : Pm w W g xb pd cd pr cr d r d r) => rwaits_any j W hj4 hW.m (HO.out.rd j))
                    obtain ⟨V, hV⟩ : ∃ V, wait d (200 * j) (r j) = V := ⟨_, rfl⟩
                    rw [hV] at CW DW
                    have u6 : ((V : Int) != (V : Int)) = false := by simp
                    have u7 : (V != V) = false := by simp
                    have e0 := HP.out.x.cell 0 _ rfl
                    have e1 := HP.out.x.cell 1 _ rfl
                    clear hV
                    go_wp2_with fail
                    refine wp_region_held_drew (S := (fun W' => W'.cell? ⟨xb, 0, none⟩ = some (.slice pd 800 cd) ∧ W'.cell? ⟨xb, 1, none⟩ = some (.slice pr 4 cr))) (by kernel_rfl) ⟨e0, e1⟩ (fun hHeld => ?_)
                    refine wpAnyH_take (i := 0) (oi := ⟨some 86, _, _, _, _, _⟩) (v := ?vr60) rfl (by kernel_rfl) (by kernel_rfl) (by kernel_rfl) (fun _ _ _ h => h) (Or.inl ⟨by rfl, ?hyr60⟩) hHeld ?restr60
                    case hyr60 => (intro W hSw; (try dsimp only at hSw); (try obtain ⟨hSw1, hSw2⟩ := hSw); (try obtain ⟨hSw2, hSw3⟩ := hSw2); (try obtain ⟨hSw3, hSw4⟩ := hSw3); (try obtain ⟨hSw4, hSw5⟩ := hSw4); go_simp; first | done | with_reducible rfl)
                    simp only [Act.put, List.setIfInBounds_toArray, List.set_cons_zero, List.set_cons_succ]
                    refine wpAnyH_take (i := 1) (oi := ⟨some 87, _, _, _, _, _⟩) (v := ?vr61) rfl (by kernel_rfl) (by kernel_rfl) (by kernel_rfl) (fun _ _ _ h => h) (Or.inl ⟨by rfl, ?hyr61⟩) hHeld ?restr61
                    case hyr61 => (intro W hSw; (try dsimp only at hSw); (try obtain ⟨hSw1, hSw2⟩ := hSw); (try obtain ⟨hSw2, hSw3⟩ := hSw2); (try obtain ⟨hSw3, hSw4⟩ := hSw3); (try obtain ⟨hSw4, hSw5⟩ := hSw4); go_simp; first | done | with_reducible rfl)
                    simp only [Act.put, List.setIfInBounds_toArray, List.set_cons_zero, List.set_cons_succ]
                    refine wpAnyH_take (i := 3) (oi := ⟨some 89, _, _, _, _, _⟩) (v := ?vr63) rfl (by kernel_rfl) (by kernel_rfl) (by kernel_rfl) (fun _ _ _ h => h) (Or.inl ⟨by rfl, ?hyr63⟩) hHeld ?restr63
                    case hyr63 => (intro W hSw; (try dsimp only at hSw); (try obtain ⟨hSw1, hSw2⟩ := hSw); (try obtain ⟨hSw2, hSw3⟩ := hSw2); (try obtain ⟨hSw3, hSw4⟩ := hSw3); (try obtain ⟨hSw4, hSw5⟩ := hSw4); go_simp; first | done | with_reducible rfl)
                    simp only [Act.put, List.setIfInBounds_toArray, List.set_cons_zero, List.set_cons_succ]
                    refine wpAnyH_take (i := 4) (oi := ⟨some 90, _, _, _, _, _⟩) (v := ?vr64) rfl (by kernel_rfl) (by kernel_rfl) (by kernel_rfl) (fun _ _ _ h => h) (Or.inl ⟨by rfl, ?hyr64⟩) hHeld ?restr64
                    case hyr64 => (intro W hSw; (try dsimp only at hSw); (try obtain ⟨hSw1, hSw2⟩ := hSw); (try obtain ⟨hSw2, hSw3⟩ := hSw2); (try obtain ⟨hSw3, hSw4⟩ := hSw3); (try obtain ⟨hSw4, hSw5⟩ := hSw4); go_simp; first | done | with_reducible rfl)
                    simp only [Act.put, List.setIfInBounds_toArray, List.set_cons_zero, List.set_cons_succ]
                    refine wpAnyH_ready (rs := [2]) (by kernel_rfl) (by simp) ?_
                    refine AllReadyH.cons (o := ⟨some 88, _, _, _, _, _⟩) rfl (fun KK hK => ?_) AllReadyH.nil
                    go_simp
                    refine (CW.out wr.drew HP.out.drew).mono ?_; rintro e w21 ⟨rfl, hb21⟩
                    have HP21 := Lib.hid (HP.out.drew.below hb21)
                    clear hb21
                    go_wp2_with fail
                    refine hK.out _ _ ⟨HP21.out.x.cell 0 _ rfl, HP21.out.x.cell 1 _ rfl⟩ (fun hHeld2 => ?_)
                    clear hK KK
                    try simp only [Act.put, List.setIfInBounds_toArray, List.set_cons_zero, List.set_cons_succ]
                    refine wpAnyH_ready (rs := [5]) (by kernel_rfl) (by simp) ?_
                    refine AllReadyH.cons (o := ⟨some 91, _, _, _, _, _⟩) rfl (fun KK2 hK2 => ?_) AllReadyH.nil
                    go_simp
                    refine (DW.out w21 HP21.out).mono ?_; rintro e w22 ⟨rfl, hb22⟩
                    have HP22 := Lib.hid (HP21.out.below hb22)
                    clear hb22
                    go_wp2_with fail
                    refine hK2.out _ _ ⟨HP22.out.x.cell 0 _ rfl, HP22.out.x.cell 1 _ rfl⟩ (fun hHeld3 => ?_)
                    clear hK2 KK2
                    try simp only [Act.put, List.setIfInBounds_toArray, List.set_cons_zero, List.set_cons_succ]
                    refine wpAnyH_take (i := 6) (oi := ⟨some 92, _, _, _, _, _⟩) (v := ?vr76) rfl (by kernel_rfl) (by kernel_rfl) (by kernel_rfl) (fun _ _ _ h => h) (Or.inl ⟨by rfl, ?hyr76⟩) hHeld3 ?restr76
                    case hyr76 => (intro W hSw; (try dsimp only at hSw); (try obtain ⟨hSw1, hSw2⟩ := hSw); (try obtain ⟨hSw2, hSw3⟩ := hSw2); (try obtain ⟨hSw3, hSw4⟩ := hSw3); (try obtain ⟨hSw4, hSw5⟩ := hSw4); go_simp; first | done | with_reducible rfl)
                    simp only [Act.put, List.setIfInBounds_toArray, List.set_cons_zero, List.set_cons_succ]
                    refine wpAnyH_done (by kernel_rfl) ?_ _
                    clear hHeld hHeld2 hHeld3 e0 e1 CW DW HP HP21
                    go_wp2_with fail
                    go_roundw
                    case rel => exact ⟨j + 1, by omega, by first | rfl | go_num, HP22⟩
                    case measure => simp [intOf]; omega
                  · obtain rfl : j = 4 := by omega
                    have u5 : decide ((4 : Int) < 4) = false := by decide
                    go_wp2_with fail
                    go_roundw
                    case rel => exact ⟨k + 1, pd, cd, pr, cr, d, r, by omega, by omega, by first | rfl | go_num, HP, HO⟩
                    case measure => simp [intOf]; omega
              · clear e0 e1 f0 f1 HX14 hm14 hgn1 hgn2 hb14 HP DN
                unfold put2 at HPm
                generalize (w14.setCell ⟨xb, 0, none⟩ (.slice pd 800 cd)).setCell ⟨xb, 1, none⟩ (.slice (some ⟨gn, 0, none⟩) 4 cn) = w15 at HPm ⊢
                have y0 := HRR.out w15 HPm.out.bel
                go_wp2_with fail
                refine (RP.out _ HPm.out.en).mono ?_; rintro e w16 ⟨rfl, hE16, hg16⟩
                have HP16 := Lib.hid (HPm.out.turn hE16 hg16)
                generalize er 0 = ve at EC ⊢
                clear hE16 hg16 HPm RP y0
                go_wp2_with fail
                refine (EC.out _ HP16.out.bel).mono ?_; rintro e w17 ⟨rfl, hb17⟩
                have HP := Lib.hid (HP16.out.below hb17)
                have HO := HO2
                have HIN := Lib.hid HP.out
                clear hb17 HP16 EC HO2
                generalize (some ⟨gn, 0, none⟩ : Option Addr) = pr at HP HIN ⊢
                generalize cn = cr at HP HIN ⊢
                generalize R = r at HP HO HIN
                clear HIN
                go_wp2_with fail
                go_loopw [14] (fun jv wj => ∃ j : Nat, j ≤ 4 ∧ jv = .int .i64 (j : Int) ∧ Hid (Pm w wj g xb pd cd pr cr d r d r)) (fun j _ => 4 - (intOf j).toNat)
                case atStart => exact ⟨0, by omega, rfl, HP⟩
                case round =>
                  clear HP
                  obtain ⟨j, hj, rfl, HP⟩ := hrel
                  by_cases hj4 : j < 4
                  · have u5 : decide ((j : Int) < 4) = true := decide_eq_true (by omega)
                    have CW := Lib.hid (fun W (hW : Pm w W g xb pd cd pr cr d r d r) => waits_any g d r (j : Int) W hW.en HO.out (wait d (200 * j) (r j) : Int) (by unfold waitM; rw [if_pos (show isS (j : Int) from ⟨by omega, by omega⟩), Int.toNat_natCast]))
                    have DW := Lib.hid (fun W (hW : Pm w W g xb pd cd pr cr d r d r) => rwaits_any j W hj4 hW.m (HO.out.rd j))
                    obtain ⟨V, hV⟩ : ∃ V, wait d (200 * j) (r j) = V := ⟨_, rfl⟩
                    rw [hV] at CW DW
                    have u6 : ((V : Int) != (V : Int)) = false := by simp
                    have u7 : (V != V) = false := by simp
                    have e0 := HP.out.x.cell 0 _ rfl
                    have e1 := HP.out.x.cell 1 _ rfl
                    clear hV
                    go_wp2_with fail
                    refine wp_region_held_drew (S := (fun W' => W'.cell? ⟨xb, 0, none⟩ = some (.slice pd 800 cd) ∧ W'.cell? ⟨xb, 1, none⟩ = some (.slice pr 4 cr))) (by kernel_rfl) ⟨e0, e1⟩ (fun hHeld => ?_)
                    refine wpAnyH_take (i := 0) (oi := ⟨some 86, _, _, _, _, _⟩) (v := ?vr80) rfl (by kernel_rfl) (by kernel_rfl) (by kernel_rfl) (fun _ _ _ h => h) (Or.inl ⟨by rfl, ?hyr80⟩) hHeld ?restr80
                    case hyr80 => (intro W hSw; (try dsimp only at hSw); (try obtain ⟨hSw1, hSw2⟩ := hSw); (try obtain ⟨hSw2, hSw3⟩ := hSw2); (try obtain ⟨hSw3, hSw4⟩ := hSw3); (try obtain ⟨hSw4, hSw5⟩ := hSw4); go_simp; first | done | with_reducible rfl)
                    simp only [Act.put, List.setIfInBounds_toArray, List.set_cons_zero, List.set_cons_succ]
                    refine wpAnyH_take (i := 1) (oi := ⟨some 87, _, _, _, _, _⟩) (v := ?vr81) rfl (by kernel_rfl) (by kernel_rfl) (by kernel_rfl) (fun _ _ _ h => h) (Or.inl ⟨by rfl, ?hyr81⟩) hHeld ?restr81
                    case hyr81 => (intro W hSw; (try dsimp only at hSw); (try obtain ⟨hSw1, hSw2⟩ := hSw); (try obtain ⟨hSw2, hSw3⟩ := hSw2); (try obtain ⟨hSw3, hSw4⟩ := hSw3); (try obtain ⟨hSw4, hSw5⟩ := hSw4); go_simp; first | done | with_reducible rfl)
                    simp only [Act.put, List.setIfInBounds_toArray, List.set_cons_zero, List.set_cons_succ]
                    refine wpAnyH_take (i := 3) (oi := ⟨some 89, _, _, _, _, _⟩) (v := ?vr83) rfl (by kernel_rfl) (by kernel_rfl) (by kernel_rfl) (fun _ _ _ h => h) (Or.inl ⟨by rfl, ?hyr83⟩) hHeld ?restr83
                    case hyr83 => (intro W hSw; (try dsimp only at hSw); (try obtain ⟨hSw1, hSw2⟩ := hSw); (try obtain ⟨hSw2, hSw3⟩ := hSw2); (try obtain ⟨hSw3, hSw4⟩ := hSw3); (try obtain ⟨hSw4, hSw5⟩ := hSw4); go_simp; first | done | with_reducible rfl)
                    simp only [Act.put, List.setIfInBounds_toArray, List.set_cons_zero, List.set_cons_succ]
                    refine wpAnyH_take (i := 4) (oi := ⟨some 90, _, _, _, _, _⟩) (v := ?vr84) rfl (by kernel_rfl) (by kernel_rfl) (by kernel_rfl) (fun _ _ _ h => h) (Or.inl ⟨by rfl, ?hyr84⟩) hHeld ?restr84
                    case hyr84 => (intro W hSw; (try dsimp only at hSw); (try obtain ⟨hSw1, hSw2⟩ := hSw); (try obtain ⟨hSw2, hSw3⟩ := hSw2); (try obtain ⟨hSw3, hSw4⟩ := hSw3); (try obtain ⟨hSw4, hSw5⟩ := hSw4); go_simp; first | done | with_reducible rfl)
                    simp only [Act.put, List.setIfInBounds_toArray, List.set_cons_zero, List.set_cons_succ]
                    refine wpAnyH_ready (rs := [2]) (by kernel_rfl) (by simp) ?_
                    refine AllReadyH.cons (o := ⟨some 88, _, _, _, _, _⟩) rfl (fun KK hK => ?_) AllReadyH.nil
                    go_simp
                    refine (CW.out wr.drew HP.out.drew).mono ?_; rintro e w21 ⟨rfl, hb21⟩
                    have HP21 := Lib.hid (HP.out.drew.below hb21)
                    clear hb21
                    go_wp2_with fail
                    refine hK.out _ _ ⟨HP21.out.x.cell 0 _ rfl, HP21.out.x.cell 1 _ rfl⟩ (fun hHeld2 => ?_)
                    clear hK KK
                    try simp only [Act.put, List.setIfInBounds_toArray, List.set_cons_zero, List.set_cons_succ]
                    refine wpAnyH_ready (rs := [5]) (by kernel_rfl) (by simp) ?_
                    refine AllReadyH.cons (o := ⟨some 91, _, _, _, _, _⟩) rfl (fun KK2 hK2 => ?_) AllReadyH.nil
                    go_simp
                    refine (DW.out w21 HP21.out).mono ?_; rintro e w22 ⟨rfl, hb22⟩
                    have HP22 := Lib.hid (HP21.out.below hb22)
                    clear hb22
                    go_wp2_with fail
                    refine hK2.out _ _ ⟨HP22.out.x.cell 0 _ rfl, HP22.out.x.cell 1 _ rfl⟩ (fun hHeld3 => ?_)
                    clear hK2 KK2
                    try simp only [Act.put, List.setIfInBounds_toArray, List.set_cons_zero, List.set_cons_succ]
                    refine wpAnyH_take (i := 6) (oi := ⟨some 92, _, _, _, _, _⟩) (v := ?vr96) rfl (by kernel_rfl) (by kernel_rfl) (by kernel_rfl) (fun _ _ _ h => h) (Or.inl ⟨by rfl, ?hyr96⟩) hHeld3 ?restr96
                    case hyr96 => (intro W hSw; (try dsimp only at hSw); (try obtain ⟨hSw1, hSw2⟩ := hSw); (try obtain ⟨hSw2, hSw3⟩ := hSw2); (try obtain ⟨hSw3, hSw4⟩ := hSw3); (try obtain ⟨hSw4, hSw5⟩ := hSw4); go_simp; first | done | with_reducible rfl)
                    simp only [Act.put, List.setIfInBounds_toArray, List.set_cons_zero, List.set_cons_succ]
                    refine wpAnyH_done (by kernel_rfl) ?_ _
                    clear hHeld hHeld2 hHeld3 e0 e1 CW DW HP HP21
                    go_wp2_with fail
                    go_roundw
                    case rel => exact ⟨j + 1, by omega, by first | rfl | go_num, HP22⟩
                    case measure => simp [intOf]; omega
                  · obtain rfl : j = 4 := by omega
                    have u5 : decide ((4 : Int) < 4) = false := by decide
                    go_wp2_with fail
                    go_roundw
                    case rel => exact ⟨k + 1, pd, cd, pr, cr, d, r, by omega, by omega, by first | rfl | go_num, HP, HO⟩
                    case measure => simp [intOf]; omega
            · have IN := Lib.hid (fun W => Ring.in_any y 0 3 W false (in_false hs))
              have hcr0 : codeR y = 1 := by unfold codeR; rw [if_neg hs]
              have htx : textM d r y = ByteArray.empty := by unfold textM; rw [if_neg hs]
              have hrr : readR d r y = r := by unfold readR; rw [if_neg hs]
              rw [hcr0] at EC RP
              rw [htx, hrr] at RP
              clear hcr0 hs htx hrr
              go_wp2_with fail
              refine (IN.out _).mono ?_; rintro e w13 ⟨rfl, hw13⟩
              subst hw13
              go_wp2_with fail
              refine (RP.out _ HP.out.en).mono ?_; rintro e w16 ⟨rfl, hE16, hg16⟩
              have HP16 := Lib.hid (HP.out.turn hE16 hg16)
              generalize er 1 = ve at EC ⊢
              clear hE16 hg16 HP RP y0
              go_wp2_with fail
              refine (EC.out _ HP16.out.bel).mono ?_; rintro e w17 ⟨rfl, hb17⟩
              have HP := Lib.hid (HP16.out.below hb17)
              have HIN := Lib.hid HP.out
              clear hb17 HP16 EC
              clear HIN
              go_wp2_with fail
              go_loopw [14] (fun jv wj => ∃ j : Nat, j ≤ 4 ∧ jv = .int .i64 (j : Int) ∧ Hid (Pm w wj g xb pd cd pr cr d r d r)) (fun j _ => 4 - (intOf j).toNat)
              case atStart => exact ⟨0, by omega, rfl, HP⟩
              case round =>
                clear HP
                obtain ⟨j, hj, rfl, HP⟩ := hrel
                by_cases hj4 : j < 4
                · have u5 : decide ((j : Int) < 4) = true := decide_eq_true (by omega)
                  have CW := Lib.hid (fun W (hW : Pm w W g xb pd cd pr cr d r d r) => waits_any g d r (j : Int) W hW.en HO.out (wait d (200 * j) (r j) : Int) (by unfold waitM; rw [if_pos (show isS (j : Int) from ⟨by omega, by omega⟩), Int.toNat_natCast]))
                  have DW := Lib.hid (fun W (hW : Pm w W g xb pd cd pr cr d r d r) => rwaits_any j W hj4 hW.m (HO.out.rd j))
                  obtain ⟨V, hV⟩ : ∃ V, wait d (200 * j) (r j) = V := ⟨_, rfl⟩
                  rw [hV] at CW DW
                  have u6 : ((V : Int) != (V : Int)) = false := by simp
                  have u7 : (V != V) = false := by simp
                  have e0 := HP.out.x.cell 0 _ rfl
                  have e1 := HP.out.x.cell 1 _ rfl
                  clear hV
                  go_wp2_with fail
                  refine wp_region_held_drew (S := (fun W' => W'.cell? ⟨xb, 0, none⟩ = some (.slice pd 800 cd) ∧ W'.cell? ⟨xb, 1, none⟩ = some (.slice pr 4 cr))) (by kernel_rfl) ⟨e0, e1⟩ (fun hHeld => ?_)
                  refine wpAnyH_take (i := 0) (oi := ⟨some 86, _, _, _, _, _⟩) (v := ?vr100) rfl (by kernel_rfl) (by kernel_rfl) (by kernel_rfl) (fun _ _ _ h => h) (Or.inl ⟨by rfl, ?hyr100⟩) hHeld ?restr100
                  case hyr100 => (intro W hSw; (try dsimp only at hSw); (try obtain ⟨hSw1, hSw2⟩ := hSw); (try obtain ⟨hSw2, hSw3⟩ := hSw2); (try obtain ⟨hSw3, hSw4⟩ := hSw3); (try obtain ⟨hSw4, hSw5⟩ := hSw4); go_simp; first | done | with_reducible rfl)
                  simp only [Act.put, List.setIfInBounds_toArray, List.set_cons_zero, List.set_cons_succ]
                  refine wpAnyH_take (i := 1) (oi := ⟨some 87, _, _, _, _, _⟩) (v := ?vr101) rfl (by kernel_rfl) (by kernel_rfl) (by kernel_rfl) (fun _ _ _ h => h) (Or.inl ⟨by rfl, ?hyr101⟩) hHeld ?restr101
                  case hyr101 => (intro W hSw; (try dsimp only at hSw); (try obtain ⟨hSw1, hSw2⟩ := hSw); (try obtain ⟨hSw2, hSw3⟩ := hSw2); (try obtain ⟨hSw3, hSw4⟩ := hSw3); (try obtain ⟨hSw4, hSw5⟩ := hSw4); go_simp; first | done | with_reducible rfl)
                  simp only [Act.put, List.setIfInBounds_toArray, List.set_cons_zero, List.set_cons_succ]
                  refine wpAnyH_take (i := 3) (oi := ⟨some 89, _, _, _, _, _⟩) (v := ?vr103) rfl (by kernel_rfl) (by kernel_rfl) (by kernel_rfl) (fun _ _ _ h => h) (Or.inl ⟨by rfl, ?hyr103⟩) hHeld ?restr103
                  case hyr103 => (intro W hSw; (try dsimp only at hSw); (try obtain ⟨hSw1, hSw2⟩ := hSw); (try obtain ⟨hSw2, hSw3⟩ := hSw2); (try obtain ⟨hSw3, hSw4⟩ := hSw3); (try obtain ⟨hSw4, hSw5⟩ := hSw4); go_simp; first | done | with_reducible rfl)
                  simp only [Act.put, List.setIfInBounds_toArray, List.set_cons_zero, List.set_cons_succ]
                  refine wpAnyH_take (i := 4) (oi := ⟨some 90, _, _, _, _, _⟩) (v := ?vr104) rfl (by kernel_rfl) (by kernel_rfl) (by kernel_rfl) (fun _ _ _ h => h) (Or.inl ⟨by rfl, ?hyr104⟩) hHeld ?restr104
                  case hyr104 => (intro W hSw; (try dsimp only at hSw); (try obtain ⟨hSw1, hSw2⟩ := hSw); (try obtain ⟨hSw2, hSw3⟩ := hSw2); (try obtain ⟨hSw3, hSw4⟩ := hSw3); (try obtain ⟨hSw4, hSw5⟩ := hSw4); go_simp; first | done | with_reducible rfl)
                  simp only [Act.put, List.setIfInBounds_toArray, List.set_cons_zero, List.set_cons_succ]
                  refine wpAnyH_ready (rs := [2]) (by kernel_rfl) (by simp) ?_
                  refine AllReadyH.cons (o := ⟨some 88, _, _, _, _, _⟩) rfl (fun KK hK => ?_) AllReadyH.nil
                  go_simp
                  refine (CW.out wr.drew HP.out.drew).mono ?_; rintro e w21 ⟨rfl, hb21⟩
                  have HP21 := Lib.hid (HP.out.drew.below hb21)
                  clear hb21
                  go_wp2_with fail
                  refine hK.out _ _ ⟨HP21.out.x.cell 0 _ rfl, HP21.out.x.cell 1 _ rfl⟩ (fun hHeld2 => ?_)
                  clear hK KK
                  try simp only [Act.put, List.setIfInBounds_toArray, List.set_cons_zero, List.set_cons_succ]
                  refine wpAnyH_ready (rs := [5]) (by kernel_rfl) (by simp) ?_
                  refine AllReadyH.cons (o := ⟨some 91, _, _, _, _, _⟩) rfl (fun KK2 hK2 => ?_) AllReadyH.nil
                  go_simp
                  refine (DW.out w21 HP21.out).mono ?_; rintro e w22 ⟨rfl, hb22⟩
                  have HP22 := Lib.hid (HP21.out.below hb22)
                  clear hb22
                  go_wp2_with fail
                  refine hK2.out _ _ ⟨HP22.out.x.cell 0 _ rfl, HP22.out.x.cell 1 _ rfl⟩ (fun hHeld3 => ?_)
                  clear hK2 KK2
                  try simp only [Act.put, List.setIfInBounds_toArray, List.set_cons_zero, List.set_cons_succ]
                  refine wpAnyH_take (i := 6) (oi := ⟨some 92, _, _, _, _, _⟩) (v := ?vr116) rfl (by kernel_rfl) (by kernel_rfl) (by kernel_rfl) (fun _ _ _ h => h) (Or.inl ⟨by rfl, ?hyr116⟩) hHeld3 ?restr116
                  case hyr116 => (intro W hSw; (try dsimp only at hSw); (try obtain ⟨hSw1, hSw2⟩ := hSw); (try obtain ⟨hSw2, hSw3⟩ := hSw2); (try obtain ⟨hSw3, hSw4⟩ := hSw3); (try obtain ⟨hSw4, hSw5⟩ := hSw4); go_simp; first | done | with_reducible rfl)
                  simp only [Act.put, List.setIfInBounds_toArray, List.set_cons_zero, List.set_cons_succ]
                  refine wpAnyH_done (by kernel_rfl) ?_ _
                  clear hHeld hHeld2 hHeld3 e0 e1 CW DW HP HP21
                  go_wp2_with fail
                  go_roundw
                  case rel => exact ⟨j + 1, by omega, by first | rfl | go_num, HP22⟩
                  case measure => simp [intOf]; omega
                · obtain rfl : j = 4 := by omega
                  have u5 : decide ((4 : Int) < 4) = false := by decide
                  go_wp2_with fail
                  go_roundw
                  case rel => exact ⟨k + 1, pd, cd, pr, cr, d, r, by omega, by omega, by first | rfl | go_num, HP, HO⟩
                  case measure => simp [intOf]; omega
          · have u3 : decide ((k : Int) < (m0 : Int)) = false := decide_eq_false (by omega)
            have HIN := Lib.hid HP.out
            clear HIN
            go_wp2_with fail
            go_loopw [14] (fun jv wj => ∃ j : Nat, j ≤ 4 ∧ jv = .int .i64 (j : Int) ∧ Hid (Pm w wj g xb pd cd pr cr d r d r)) (fun j _ => 4 - (intOf j).toNat)
            case atStart => exact ⟨0, by omega, rfl, HP⟩
            case round =>
              clear HP
              obtain ⟨j, hj, rfl, HP⟩ := hrel
              by_cases hj4 : j < 4
              · have u5 : decide ((j : Int) < 4) = true := decide_eq_true (by omega)
                have CW := Lib.hid (fun W (hW : Pm w W g xb pd cd pr cr d r d r) => waits_any g d r (j : Int) W hW.en HO.out (wait d (200 * j) (r j) : Int) (by unfold waitM; rw [if_pos (show isS (j : Int) from ⟨by omega, by omega⟩), Int.toNat_natCast]))
                have DW := Lib.hid (fun W (hW : Pm w W g xb pd cd pr cr d r d r) => rwaits_any j W hj4 hW.m (HO.out.rd j))
                obtain ⟨V, hV⟩ : ∃ V, wait d (200 * j) (r j) = V := ⟨_, rfl⟩
                rw [hV] at CW DW
                have u6 : ((V : Int) != (V : Int)) = false := by simp
                have u7 : (V != V) = false := by simp
                have e0 := HP.out.x.cell 0 _ rfl
                have e1 := HP.out.x.cell 1 _ rfl
                clear hV
                go_wp2_with fail
                refine wp_region_held_drew (S := (fun W' => W'.cell? ⟨xb, 0, none⟩ = some (.slice pd 800 cd) ∧ W'.cell? ⟨xb, 1, none⟩ = some (.slice pr 4 cr))) (by kernel_rfl) ⟨e0, e1⟩ (fun hHeld => ?_)
                refine wpAnyH_take (i := 0) (oi := ⟨some 86, _, _, _, _, _⟩) (v := ?vr120) rfl (by kernel_rfl) (by kernel_rfl) (by kernel_rfl) (fun _ _ _ h => h) (Or.inl ⟨by rfl, ?hyr120⟩) hHeld ?restr120
                case hyr120 => (intro W hSw; (try dsimp only at hSw); (try obtain ⟨hSw1, hSw2⟩ := hSw); (try obtain ⟨hSw2, hSw3⟩ := hSw2); (try obtain ⟨hSw3, hSw4⟩ := hSw3); (try obtain ⟨hSw4, hSw5⟩ := hSw4); go_simp; first | done | with_reducible rfl)
                simp only [Act.put, List.setIfInBounds_toArray, List.set_cons_zero, List.set_cons_succ]
                refine wpAnyH_take (i := 1) (oi := ⟨some 87, _, _, _, _, _⟩) (v := ?vr121) rfl (by kernel_rfl) (by kernel_rfl) (by kernel_rfl) (fun _ _ _ h => h) (Or.inl ⟨by rfl, ?hyr121⟩) hHeld ?restr121
                case hyr121 => (intro W hSw; (try dsimp only at hSw); (try obtain ⟨hSw1, hSw2⟩ := hSw); (try obtain ⟨hSw2, hSw3⟩ := hSw2); (try obtain ⟨hSw3, hSw4⟩ := hSw3); (try obtain ⟨hSw4, hSw5⟩ := hSw4); go_simp; first | done | with_reducible rfl)
                simp only [Act.put, List.setIfInBounds_toArray, List.set_cons_zero, List.set_cons_succ]
                refine wpAnyH_take (i := 3) (oi := ⟨some 89, _, _, _, _, _⟩) (v := ?vr123) rfl (by kernel_rfl) (by kernel_rfl) (by kernel_rfl) (fun _ _ _ h => h) (Or.inl ⟨by rfl, ?hyr123⟩) hHeld ?restr123
                case hyr123 => (intro W hSw; (try dsimp only at hSw); (try obtain ⟨hSw1, hSw2⟩ := hSw); (try obtain ⟨hSw2, hSw3⟩ := hSw2); (try obtain ⟨hSw3, hSw4⟩ := hSw3); (try obtain ⟨hSw4, hSw5⟩ := hSw4); go_simp; first | done | with_reducible rfl)
                simp only [Act.put, List.setIfInBounds_toArray, List.set_cons_zero, List.set_cons_succ]
                refine wpAnyH_take (i := 4) (oi := ⟨some 90, _, _, _, _, _⟩) (v := ?vr124) rfl (by kernel_rfl) (by kernel_rfl) (by kernel_rfl) (fun _ _ _ h => h) (Or.inl ⟨by rfl, ?hyr124⟩) hHeld ?restr124
                case hyr124 => (intro W hSw; (try dsimp only at hSw); (try obtain ⟨hSw1, hSw2⟩ := hSw); (try obtain ⟨hSw2, hSw3⟩ := hSw2); (try obtain ⟨hSw3, hSw4⟩ := hSw3); (try obtain ⟨hSw4, hSw5⟩ := hSw4); go_simp; first | done | with_reducible rfl)
                simp only [Act.put, List.setIfInBounds_toArray, List.set_cons_zero, List.set_cons_succ]
                refine wpAnyH_ready (rs := [2]) (by kernel_rfl) (by simp) ?_
                refine AllReadyH.cons (o := ⟨some 88, _, _, _, _, _⟩) rfl (fun KK hK => ?_) AllReadyH.nil
                go_simp
                refine (CW.out wr.drew HP.out.drew).mono ?_; rintro e w21 ⟨rfl, hb21⟩
                have HP21 := Lib.hid (HP.out.drew.below hb21)
                clear hb21
                go_wp2_with fail
                refine hK.out _ _ ⟨HP21.out.x.cell 0 _ rfl, HP21.out.x.cell 1 _ rfl⟩ (fun hHeld2 => ?_)
                clear hK KK
                try simp only [Act.put, List.setIfInBounds_toArray, List.set_cons_zero, List.set_cons_succ]
                refine wpAnyH_ready (rs := [5]) (by kernel_rfl) (by simp) ?_
                refine AllReadyH.cons (o := ⟨some 91, _, _, _, _, _⟩) rfl (fun KK2 hK2 => ?_) AllReadyH.nil
                go_simp
                refine (DW.out w21 HP21.out).mono ?_; rintro e w22 ⟨rfl, hb22⟩
                have HP22 := Lib.hid (HP21.out.below hb22)
                clear hb22
                go_wp2_with fail
                refine hK2.out _ _ ⟨HP22.out.x.cell 0 _ rfl, HP22.out.x.cell 1 _ rfl⟩ (fun hHeld3 => ?_)
                clear hK2 KK2
                try simp only [Act.put, List.setIfInBounds_toArray, List.set_cons_zero, List.set_cons_succ]
                refine wpAnyH_take (i := 6) (oi := ⟨some 92, _, _, _, _, _⟩) (v := ?vr136) rfl (by kernel_rfl) (by kernel_rfl) (by kernel_rfl) (fun _ _ _ h => h) (Or.inl ⟨by rfl, ?hyr136⟩) hHeld3 ?restr136
                case hyr136 => (intro W hSw; (try dsimp only at hSw); (try obtain ⟨hSw1, hSw2⟩ := hSw); (try obtain ⟨hSw2, hSw3⟩ := hSw2); (try obtain ⟨hSw3, hSw4⟩ := hSw3); (try obtain ⟨hSw4, hSw5⟩ := hSw4); go_simp; first | done | with_reducible rfl)
                simp only [Act.put, List.setIfInBounds_toArray, List.set_cons_zero, List.set_cons_succ]
                refine wpAnyH_done (by kernel_rfl) ?_ _
                clear hHeld hHeld2 hHeld3 e0 e1 CW DW HP HP21
                go_wp2_with fail
                go_roundw
                case rel => exact ⟨j + 1, by omega, by first | rfl | go_num, HP22⟩
                case measure => simp [intOf]; omega
              · obtain rfl : j = 4 := by omega
                have u5 : decide ((4 : Int) < 4) = false := by decide
                go_wp2_with fail
                go_roundw
                case rel => exact ⟨k + 1, pd, cd, pr, cr, d, r, by omega, by omega, by first | rfl | go_num, HP, HO⟩
                case measure => simp [intOf]; omega
        · go_simp
          have hbA : Below wr.heap.size wr (wr.alloc (.cells #[.slice none 0 0, .slice none 0 0] 39)).drew := bdrewN (balloc (brefl wr) (.cells #[.slice none 0 0, .slice none 0 0] 39)) 1
          have hzA : Blk 39 (wr.alloc (.cells #[.slice none 0 0, .slice none 0 0] 39)).drew wr.heap.size [.slice none 0 0, .slice none 0 0] := Blk.new wr 39 _
          have hgx : wr.heap.size ≠ xb := by have := HP.out.x.lt; omega
          have hgy : xb ≠ wr.heap.size := fun e => hgx e.symm
          have HPA := Lib.hid (HP.out.below hbA)
          have hszA : wr.heap.size < (wr.alloc (.cells #[.slice none 0 0, .slice none 0 0] 39)).drew.heap.size := hzA.lt
          refine hK.out _ _ (⟨HPA.out.x.cell 0 _ rfl, HPA.out.x.cell 1 _ rfl, HFR.out _ (HPA.out.bel)⟩) (fun hHeld2 => ?_)
          clear hK KK
          try simp only [Act.put, List.setIfInBounds_toArray, List.set_cons_zero, List.set_cons_succ]
          refine wpAnyH_ready (rs := [5]) (by kernel_rfl) (by simp) ?_
          refine AllReadyH.cons (o := ⟨some 33, _, _, _, _, _⟩) rfl (fun KK2 hK2 => ?_) AllReadyH.nil
          go_simp
          generalize (wr.alloc (.cells #[.slice none 0 0, .slice none 0 0] 39)).drew = wA at hbA hzA hszA HPA ⊢
          refine (CD.out wA HPA.out).mono ?_; rintro e w6 ⟨pd2, cd2, rfl, hm6, ha6, hb6⟩
          have hb7 : Below wr.heap.size wr w6 := bcall hbA hb6
          have hz6 := hzA.below hb6
          have hne1 : ∀ a, pd2 = some a → a.block ≠ wr.heap.size := fun a e => by
            rcases ha6 a e with h | h
            · have := (HP.out.dg a h).2.2; omega
            · have := h.1; omega
          have hne2 : ∀ a, pr = some a → a.block ≠ wr.heap.size := fun a e => by have := (HP.out.rg a e).2.2; omega
          have HX6 := Lib.hid (HP.out.x.below hb7)
          go_wp2_with fail
          refine hK2.out _ _ (⟨HX6.out.cell 0 _ rfl, HX6.out.cell 1 _ rfl, HFR.out _ (bcall HP.out.bel hb7)⟩) (fun hHeld3 => ?_)
          clear hK2 KK2
          try simp only [Act.put, List.setIfInBounds_toArray, List.set_cons_zero, List.set_cons_succ]
          refine wpAnyH_take (i := 6) (oi := ⟨some 27, _, _, _, _, _⟩) (v := ?vr46) rfl (by kernel_rfl) (by kernel_rfl) (by kernel_rfl) (fun _ _ _ h => h) (Or.inl ⟨by rfl, ?hyr46⟩) hHeld3 ?restr46
          case hyr46 => (intro W hSw; (try dsimp only at hSw); (try obtain ⟨hSw1, hSw2⟩ := hSw); (try obtain ⟨hSw2, hSw3⟩ := hSw2); (try obtain ⟨hSw3, hSw4⟩ := hSw3); (try obtain ⟨hSw4, hSw5⟩ := hSw4); go_simp; first | done | with_reducible rfl)
          simp only [Act.put, List.setIfInBounds_toArray, List.set_cons_zero, List.set_cons_succ]
          refine wpAnyH_take (i := 7) (oi := ⟨some 34, _, _, _, _, _⟩) (v := ?vr47) rfl (by kernel_rfl) (by kernel_rfl) (by kernel_rfl) (fun _ _ _ h => h) (Or.inl ⟨by rfl, ?hyr47⟩) hHeld3 ?restr47
          case hyr47 => (intro W hSw; (try dsimp only at hSw); (try obtain ⟨hSw1, hSw2⟩ := hSw); (try obtain ⟨hSw2, hSw3⟩ := hSw2); (try obtain ⟨hSw3, hSw4⟩ := hSw3); (try obtain ⟨hSw4, hSw5⟩ := hSw4); go_simp; first | done | with_reducible rfl)
          simp only [Act.put, List.setIfInBounds_toArray, List.set_cons_zero, List.set_cons_succ]
          refine wpAnyH_take (i := 8) (oi := ⟨some 35, _, _, _, _, _⟩) (v := ?vr48) rfl (by kernel_rfl) (by kernel_rfl) (by kernel_rfl) (fun _ _ _ h => h) (Or.inl ⟨by rfl, ?hyr48⟩) hHeld3 ?restr48
          case hyr48 => (intro W hSw; (try dsimp only at hSw); (try obtain ⟨hSw1, hSw2⟩ := hSw); (try obtain ⟨hSw2, hSw3⟩ := hSw2); (try obtain ⟨hSw3, hSw4⟩ := hSw3); (try obtain ⟨hSw4, hSw5⟩ := hSw4); go_simp; first | done | with_reducible rfl)
          simp only [Act.put, List.setIfInBounds_toArray, List.set_cons_zero, List.set_cons_succ]
          refine wpAnyH_ready (rs := [10]) (by kernel_rfl) (by simp) ?_
          refine AllReadyH.cons (o := ⟨none, _, _, _, _, _⟩) rfl (fun KK3 hK3 => ?_) AllReadyH.nil
          have z0 := hz6.cell 0 _ rfl
          have z1 := hz6.cell 1 _ rfl
          have f0 := hz6.fz 0
          have f1 := hz6.fz 1
          have hgr := grown_set (set_grown w6 wr.heap.size 0 (.slice pd2 800 cd2)) 1 (.slice pr 4 cr)
          have HZ9 := Lib.hid ((hz6.set 0 (.slice pd2 800 cd2)).set 1 (.slice pr 4 cr))
          have HB9 := Lib.hid (below_set (below_set hb7 wr.heap.size 0 (.slice pd2 800 cd2) (Nat.le_refl _)) wr.heap.size 1 (.slice pr 4 cr) (Nat.le_refl _))
          have HM9 : Hid (Dm ((w6.setCell ⟨wr.heap.size, 0, none⟩ (.slice pd2 800 cd2)).setCell ⟨wr.heap.size, 1, none⟩ (.slice pr 4 cr)) pd2 cd2 pr cr D r) := Lib.hid ⟨ints_grow hm6.d hgr hne1, ints_grow hm6.r hgr hne2⟩
          have HA9 : Hid (∀ a, pd2 = some a → pd = some a ∨ (wr.heap.size ≤ a.block ∧ a.block < ((w6.setCell ⟨wr.heap.size, 0, none⟩ (.slice pd2 800 cd2)).setCell ⟨wr.heap.size, 1, none⟩ (.slice pr 4 cr)).heap.size)) := Lib.hid (fun a e => (ha6 a e).imp id (fun h => ⟨by omega, by simp [World.setCell]; omega⟩))
          have HX9 := Lib.hid ((HX6.out.other wr.heap.size 0 (.slice pd2 800 cd2) hgy).other wr.heap.size 1 (.slice pr 4 cr) hgy)
          clear hm6 ha6 hne1 hne2 hb6 hb7 hz6 hszA hzA hbA HPA hgr
          go_simp
          refine hK3.out _ _ (⟨HX9.out.cell 0 _ rfl, HX9.out.cell 1 _ rfl, HFR.out _ (bcall HP.out.bel HB9.out)⟩) (fun hHeld4 => ?_)
          clear hK3 KK3 z0 z1 f0 f1
          try simp only [Act.put, List.setIfInBounds_toArray, List.set_cons_zero, List.set_cons_succ]
          refine wpAnyH_take (i := 11) (oi := ⟨some 9, _, _, _, _, _⟩) (v := ?vr511) rfl (by kernel_rfl) (by kernel_rfl) (by kernel_rfl) (fun _ _ _ h => h) (Or.inl ⟨by rfl, ?hyr511⟩) hHeld4 ?restr511
          case hyr511 => (intro W hSw; (try dsimp only at hSw); (try obtain ⟨hSw1, hSw2⟩ := hSw); (try obtain ⟨hSw2, hSw3⟩ := hSw2); (try obtain ⟨hSw3, hSw4⟩ := hSw3); (try obtain ⟨hSw4, hSw5⟩ := hSw4); go_simp; first | done | with_reducible rfl)
          simp only [Act.put, List.setIfInBounds_toArray, List.set_cons_zero, List.set_cons_succ]
          refine wpAnyH_done (by kernel_rfl) ?_ _
          generalize (w6.setCell ⟨wr.heap.size, 0, none⟩ (.slice pd2 800 cd2)).setCell ⟨wr.heap.size, 1, none⟩ (.slice pr 4 cr) = w9 at HZ9 HB9 HM9 HA9 HX9 ⊢
          generalize wr.heap.size = g9 at HZ9 hgx hgy ⊢
          clear HX6
          clear hHeld hHeld2 hHeld3 hHeld4 CD q e0 e1
          have HP10 := Lib.hid (HP.out.store HB9.out HM9.out HA9.out (fun a e => .inl e))
          have e0 := HX9.out.cell 0 _ rfl
          have e1 := HX9.out.cell 1 _ rfl
          have f0 := HX9.out.fz 0
          have f1 := HX9.out.fz 1
          have z0 := HZ9.out.cell 0 _ rfl
          have z1 := HZ9.out.cell 1 _ rfl
          have q10 := HFR.out _ HP10.out.bel
          unfold put2 at HP10 q10
          clear HX9 HZ9 HB9 HM9 HA9 HP
          go_wp2_with fail
          generalize (w9.setCell ⟨xb, 0, none⟩ (.slice pd2 800 cd2)).setCell ⟨xb, 1, none⟩ (.slice pr 4 cr) = w10 at HP10 q10 ⊢
          clear e0 e1 f0 f1 z0 z1
          refine (PP.out w10 HP10.out.en).mono ?_; rintro e w11 ⟨rfl, hE11, hg11⟩
          have HP11 := Lib.hid (HP10.out.turn hE11 hg11)
          have EC := Lib.hid (fun W hW => ER.out cc W hW)
          generalize er cc = ve at EC ⊢
          clear hE11 hg11 HP10 PP q10 HFR HCC HD
          go_wp2_with fail
          refine (EC.out w11 HP11.out.bel).mono ?_; rintro e w12 ⟨rfl, hb12⟩
          have HP := Lib.hid (HP11.out.below hb12)
          have HO := HO2
          clear hb12 HP11 EC HO2
          generalize pd2 = pd at HP
          generalize cd2 = cd at HP
          generalize D = d at HP HO
          by_cases hr1 : k < m0
          · have u3 : decide ((k : Int) < (m0 : Int)) = true := decide_eq_true (by omega)
            obtain ⟨b2, off2, rfl, hbl2, hcr⟩ := HI2.out.2.2.2 (by rw [HN2.out]; omega)
            obtain ⟨y, hy⟩ : ∃ y, rs[k]?.getD 0 = y := ⟨_, rfl⟩
            have HRR : Hid (∀ W, Below w.heap.size w W → W.cell? ⟨b2, off2 + k, none⟩ = some (.int .i64 y)) := Lib.hid (fun W hW => by rw [← hy]; exact (hW.cell (p := ⟨b2, off2 + k, none⟩) hbl2).trans (hcr k (by rw [HN2.out]; exact hr1)))
            have HBX : Hid (b2 ≠ xb) := Lib.hid (by have := HP.out.lx; have : b2 < w.heap.size := hbl2; omega)
            have HBG : Hid (b2 ≠ g) := Lib.hid (by have := HP.out.lg; have : b2 < w.heap.size := hbl2; omega)
            have y0 := HRR.out w12 HP.out.bel
            have EC := Lib.hid (fun W hW => ER.out (codeR y) W hW)
            have RP := Lib.hid (fun W (H : Mux.Ends W g d r) => read_any g d r HO.out y W H _ rfl _ rfl _ rfl)
            clear hcr hbl2 hy
            by_cases hs : isS y
            · have IN := Lib.hid (fun W => Ring.in_any y 0 3 W true (in_true hs))
              obtain ⟨n, rfl⟩ : ∃ n : Nat, y = (n : Int) := ⟨y.toNat, by have := hs.1; omega⟩
              have hn4 : n < 4 := by have := hs.2; omega
              have DN := Lib.hid (fun W (hW : Pm w W g xb pd cd pr cr d r d r) => rnext_any n W hn4 hW.m HO.out)
              have hcr0 : codeR (n : Int) = 0 := by unfold codeR; rw [if_pos hs]
              rw [hcr0] at EC RP
              have HO2 := Lib.hid (HO.out.read (n : Int))
              generalize textM d r (n : Int) = tx at DN RP
              generalize readR d r (n : Int) = R at DN RP HO2
              have v1 : (tx.toList == tx.toList) = true := by simp
              have v2 : (tx.toList != tx.toList) = false := by simp
              have e0 := HP.out.x.cell 0 _ rfl
              have e1 := HP.out.x.cell 1 _ rfl
              clear hcr0 hs
              go_wp2_with fail
              refine (IN.out _).mono ?_; rintro e w13 ⟨rfl, hw13⟩
              subst hw13
              go_wp2_with fail
              go_region_law (first
                | (go_simp; go_at_call 14; refine (DN.out _ HP.out.drew).mono ?_; rintro e w14 ⟨gn, cn, rfl, hm14, hgn1, hgn2, hb14⟩
                   have HPm := Lib.hid (HP.out.drew.store hb14 hm14 (fun a e => .inl e) (fun a e => .inr (by injection e with e; subst e; exact ⟨hgn1, hgn2⟩)))
                   have HX14 := Lib.hid (HP.out.drew.x.below hb14)
                   have e0 := HX14.out.cell 0 _ rfl
                   have e1 := HX14.out.cell 1 _ rfl
                   have f0 := HX14.out.fz 0
                   have f1 := HX14.out.fz 1))
              · clear e0 e1 f0 f1 HX14 hm14 hgn1 hgn2 hb14 HP DN
                unfold put2 at HPm
                generalize (w14.setCell ⟨xb, 0, none⟩ (.slice pd 800 cd)).setCell ⟨xb, 1, none⟩ (.slice (some ⟨gn, 0, none⟩) 4 cn) = w15 at HPm ⊢
                have y0 := HRR.out w15 HPm.out.bel
                go_wp2_with fail
                refine (RP.out _ HPm.out.en).mono ?_; rintro e w16 ⟨rfl, hE16, hg16⟩
                have HP16 := Lib.hid (HPm.out.turn hE16 hg16)
                generalize er 0 = ve at EC ⊢
                clear hE16 hg16 HPm RP y0
                go_wp2_with fail
                refine (EC.out _ HP16.out.bel).mono ?_; rintro e w17 ⟨rfl, hb17⟩
                have HP := Lib.hid (HP16.out.below hb17)
                have HO := HO2
                have HIN := Lib.hid HP.out
                clear hb17 HP16 EC HO2
                generalize (some ⟨gn, 0, none⟩ : Option Addr) = pr at HP HIN ⊢
                generalize cn = cr at HP HIN ⊢
                generalize R = r at HP HO HIN
                clear HIN
                go_wp2_with fail
                go_loopw [14] (fun jv wj => ∃ j : Nat, j ≤ 4 ∧ jv = .int .i64 (j : Int) ∧ Hid (Pm w wj g xb pd cd pr cr d r d r)) (fun j _ => 4 - (intOf j).toNat)
                case atStart => exact ⟨0, by omega, rfl, HP⟩
                case round =>
                  clear HP
                  obtain ⟨j, hj, rfl, HP⟩ := hrel
                  by_cases hj4 : j < 4
                  · have u5 : decide ((j : Int) < 4) = true := decide_eq_true (by omega)
                    have CW := Lib.hid (fun W (hW : Pm w W g xb pd cd pr cr d r d r) => waits_any g d r (j : Int) W hW.en HO.out (wait d (200 * j) (r j) : Int) (by unfold waitM; rw [if_pos (show isS (j : Int) from ⟨by omega, by omega⟩), Int.toNat_natCast]))
                    have DW := Lib.hid (fun W (hW : Pm w W g xb pd cd pr cr d r d r) => rwaits_any j W hj4 hW.m (HO.out.rd j))
                    obtain ⟨V, hV⟩ : ∃ V, wait d (200 * j) (r j) = V := ⟨_, rfl⟩
                    rw [hV] at CW DW
                    have u6 : ((V : Int) != (V : Int)) = false := by simp
                    have u7 : (V != V) = false := by simp
                    have e0 := HP.out.x.cell 0 _ rfl
                    have e1 := HP.out.x.cell 1 _ rfl
                    clear hV
                    go_wp2_with fail
                    refine wp_region_held_drew (S := (fun W' => W'.cell? ⟨xb, 0, none⟩ = some (.slice pd 800 cd) ∧ W'.cell? ⟨xb, 1, none⟩ = some (.slice pr 4 cr))) (by kernel_rfl) ⟨e0, e1⟩ (fun hHeld => ?_)
                    refine wpAnyH_take (i := 0) (oi := ⟨some 86, _, _, _, _, _⟩) (v := ?vr140) rfl (by kernel_rfl) (by kernel_rfl) (by kernel_rfl) (fun _ _ _ h => h) (Or.inl ⟨by rfl, ?hyr140⟩) hHeld ?restr140
                    case hyr140 => (intro W hSw; (try dsimp only at hSw); (try obtain ⟨hSw1, hSw2⟩ := hSw); (try obtain ⟨hSw2, hSw3⟩ := hSw2); (try obtain ⟨hSw3, hSw4⟩ := hSw3); (try obtain ⟨hSw4, hSw5⟩ := hSw4); go_simp; first | done | with_reducible rfl)
                    simp only [Act.put, List.setIfInBounds_toArray, List.set_cons_zero, List.set_cons_succ]
                    refine wpAnyH_take (i := 1) (oi := ⟨some 87, _, _, _, _, _⟩) (v := ?vr141) rfl (by kernel_rfl) (by kernel_rfl) (by kernel_rfl) (fun _ _ _ h => h) (Or.inl ⟨by rfl, ?hyr141⟩) hHeld ?restr141
                    case hyr141 => (intro W hSw; (try dsimp only at hSw); (try obtain ⟨hSw1, hSw2⟩ := hSw); (try obtain ⟨hSw2, hSw3⟩ := hSw2); (try obtain ⟨hSw3, hSw4⟩ := hSw3); (try obtain ⟨hSw4, hSw5⟩ := hSw4); go_simp; first | done | with_reducible rfl)
                    simp only [Act.put, List.setIfInBounds_toArray, List.set_cons_zero, List.set_cons_succ]
                    refine wpAnyH_take (i := 3) (oi := ⟨some 89, _, _, _, _, _⟩) (v := ?vr143) rfl (by kernel_rfl) (by kernel_rfl) (by kernel_rfl) (fun _ _ _ h => h) (Or.inl ⟨by rfl, ?hyr143⟩) hHeld ?restr143
                    case hyr143 => (intro W hSw; (try dsimp only at hSw); (try obtain ⟨hSw1, hSw2⟩ := hSw); (try obtain ⟨hSw2, hSw3⟩ := hSw2); (try obtain ⟨hSw3, hSw4⟩ := hSw3); (try obtain ⟨hSw4, hSw5⟩ := hSw4); go_simp; first | done | with_reducible rfl)
                    simp only [Act.put, List.setIfInBounds_toArray, List.set_cons_zero, List.set_cons_succ]
                    refine wpAnyH_take (i := 4) (oi := ⟨some 90, _, _, _, _, _⟩) (v := ?vr144) rfl (by kernel_rfl) (by kernel_rfl) (by kernel_rfl) (fun _ _ _ h => h) (Or.inl ⟨by rfl, ?hyr144⟩) hHeld ?restr144
                    case hyr144 => (intro W hSw; (try dsimp only at hSw); (try obtain ⟨hSw1, hSw2⟩ := hSw); (try obtain ⟨hSw2, hSw3⟩ := hSw2); (try obtain ⟨hSw3, hSw4⟩ := hSw3); (try obtain ⟨hSw4, hSw5⟩ := hSw4); go_simp; first | done | with_reducible rfl)
                    simp only [Act.put, List.setIfInBounds_toArray, List.set_cons_zero, List.set_cons_succ]
                    refine wpAnyH_ready (rs := [2]) (by kernel_rfl) (by simp) ?_
                    refine AllReadyH.cons (o := ⟨some 88, _, _, _, _, _⟩) rfl (fun KK hK => ?_) AllReadyH.nil
                    go_simp
                    refine (CW.out wr.drew HP.out.drew).mono ?_; rintro e w21 ⟨rfl, hb21⟩
                    have HP21 := Lib.hid (HP.out.drew.below hb21)
                    clear hb21
                    go_wp2_with fail
                    refine hK.out _ _ ⟨HP21.out.x.cell 0 _ rfl, HP21.out.x.cell 1 _ rfl⟩ (fun hHeld2 => ?_)
                    clear hK KK
                    try simp only [Act.put, List.setIfInBounds_toArray, List.set_cons_zero, List.set_cons_succ]
                    refine wpAnyH_ready (rs := [5]) (by kernel_rfl) (by simp) ?_
                    refine AllReadyH.cons (o := ⟨some 91, _, _, _, _, _⟩) rfl (fun KK2 hK2 => ?_) AllReadyH.nil
                    go_simp
                    refine (DW.out w21 HP21.out).mono ?_; rintro e w22 ⟨rfl, hb22⟩
                    have HP22 := Lib.hid (HP21.out.below hb22)
                    clear hb22
                    go_wp2_with fail
                    refine hK2.out _ _ ⟨HP22.out.x.cell 0 _ rfl, HP22.out.x.cell 1 _ rfl⟩ (fun hHeld3 => ?_)
                    clear hK2 KK2
                    try simp only [Act.put, List.setIfInBounds_toArray, List.set_cons_zero, List.set_cons_succ]
                    refine wpAnyH_take (i := 6) (oi := ⟨some 92, _, _, _, _, _⟩) (v := ?vr156) rfl (by kernel_rfl) (by kernel_rfl) (by kernel_rfl) (fun _ _ _ h => h) (Or.inl ⟨by rfl, ?hyr156⟩) hHeld3 ?restr156
                    case hyr156 => (intro W hSw; (try dsimp only at hSw); (try obtain ⟨hSw1, hSw2⟩ := hSw); (try obtain ⟨hSw2, hSw3⟩ := hSw2); (try obtain ⟨hSw3, hSw4⟩ := hSw3); (try obtain ⟨hSw4, hSw5⟩ := hSw4); go_simp; first | done | with_reducible rfl)
                    simp only [Act.put, List.setIfInBounds_toArray, List.set_cons_zero, List.set_cons_succ]
                    refine wpAnyH_done (by kernel_rfl) ?_ _
                    clear hHeld hHeld2 hHeld3 e0 e1 CW DW HP HP21
                    go_wp2_with fail
                    go_roundw
                    case rel => exact ⟨j + 1, by omega, by first | rfl | go_num, HP22⟩
                    case measure => simp [intOf]; omega
                  · obtain rfl : j = 4 := by omega
                    have u5 : decide ((4 : Int) < 4) = false := by decide
                    go_wp2_with fail
                    go_roundw
                    case rel => exact ⟨k + 1, pd, cd, pr, cr, d, r, by omega, by omega, by first | rfl | go_num, HP, HO⟩
                    case measure => simp [intOf]; omega
              · clear e0 e1 f0 f1 HX14 hm14 hgn1 hgn2 hb14 HP DN
                unfold put2 at HPm
                generalize (w14.setCell ⟨xb, 0, none⟩ (.slice pd 800 cd)).setCell ⟨xb, 1, none⟩ (.slice (some ⟨gn, 0, none⟩) 4 cn) = w15 at HPm ⊢
                have y0 := HRR.out w15 HPm.out.bel
                go_wp2_with fail
                refine (RP.out _ HPm.out.en).mono ?_; rintro e w16 ⟨rfl, hE16, hg16⟩
                have HP16 := Lib.hid (HPm.out.turn hE16 hg16)
                generalize er 0 = ve at EC ⊢
                clear hE16 hg16 HPm RP y0
                go_wp2_with fail
                refine (EC.out _ HP16.out.bel).mono ?_; rintro e w17 ⟨rfl, hb17⟩
                have HP := Lib.hid (HP16.out.below hb17)
                have HO := HO2
                have HIN := Lib.hid HP.out
                clear hb17 HP16 EC HO2
                generalize (some ⟨gn, 0, none⟩ : Option Addr) = pr at HP HIN ⊢
                generalize cn = cr at HP HIN ⊢
                generalize R = r at HP HO HIN
                clear HIN
                go_wp2_with fail
                go_loopw [14] (fun jv wj => ∃ j : Nat, j ≤ 4 ∧ jv = .int .i64 (j : Int) ∧ Hid (Pm w wj g xb pd cd pr cr d r d r)) (fun j _ => 4 - (intOf j).toNat)
                case atStart => exact ⟨0, by omega, rfl, HP⟩
                case round =>
                  clear HP
                  obtain ⟨j, hj, rfl, HP⟩ := hrel
                  by_cases hj4 : j < 4
                  · have u5 : decide ((j : Int) < 4) = true := decide_eq_true (by omega)
                    have CW := Lib.hid (fun W (hW : Pm w W g xb pd cd pr cr d r d r) => waits_any g d r (j : Int) W hW.en HO.out (wait d (200 * j) (r j) : Int) (by unfold waitM; rw [if_pos (show isS (j : Int) from ⟨by omega, by omega⟩), Int.toNat_natCast]))
                    have DW := Lib.hid (fun W (hW : Pm w W g xb pd cd pr cr d r d r) => rwaits_any j W hj4 hW.m (HO.out.rd j))
                    obtain ⟨V, hV⟩ : ∃ V, wait d (200 * j) (r j) = V := ⟨_, rfl⟩
                    rw [hV] at CW DW
                    have u6 : ((V : Int) != (V : Int)) = false := by simp
                    have u7 : (V != V) = false := by simp
                    have e0 := HP.out.x.cell 0 _ rfl
                    have e1 := HP.out.x.cell 1 _ rfl
                    clear hV
                    go_wp2_with fail
                    refine wp_region_held_drew (S := (fun W' => W'.cell? ⟨xb, 0, none⟩ = some (.slice pd 800 cd) ∧ W'.cell? ⟨xb, 1, none⟩ = some (.slice pr 4 cr))) (by kernel_rfl) ⟨e0, e1⟩ (fun hHeld => ?_)
                    refine wpAnyH_take (i := 0) (oi := ⟨some 86, _, _, _, _, _⟩) (v := ?vr160) rfl (by kernel_rfl) (by kernel_rfl) (by kernel_rfl) (fun _ _ _ h => h) (Or.inl ⟨by rfl, ?hyr160⟩) hHeld ?restr160
                    case hyr160 => (intro W hSw; (try dsimp only at hSw); (try obtain ⟨hSw1, hSw2⟩ := hSw); (try obtain ⟨hSw2, hSw3⟩ := hSw2); (try obtain ⟨hSw3, hSw4⟩ := hSw3); (try obtain ⟨hSw4, hSw5⟩ := hSw4); go_simp; first | done | with_reducible rfl)
                    simp only [Act.put, List.setIfInBounds_toArray, List.set_cons_zero, List.set_cons_succ]
                    refine wpAnyH_take (i := 1) (oi := ⟨some 87, _, _, _, _, _⟩) (v := ?vr161) rfl (by kernel_rfl) (by kernel_rfl) (by kernel_rfl) (fun _ _ _ h => h) (Or.inl ⟨by rfl, ?hyr161⟩) hHeld ?restr161
                    case hyr161 => (intro W hSw; (try dsimp only at hSw); (try obtain ⟨hSw1, hSw2⟩ := hSw); (try obtain ⟨hSw2, hSw3⟩ := hSw2); (try obtain ⟨hSw3, hSw4⟩ := hSw3); (try obtain ⟨hSw4, hSw5⟩ := hSw4); go_simp; first | done | with_reducible rfl)
                    simp only [Act.put, List.setIfInBounds_toArray, List.set_cons_zero, List.set_cons_succ]
                    refine wpAnyH_take (i := 3) (oi := ⟨some 89, _, _, _, _, _⟩) (v := ?vr163) rfl (by kernel_rfl) (by kernel_rfl) (by kernel_rfl) (fun _ _ _ h => h) (Or.inl ⟨by rfl, ?hyr163⟩) hHeld ?restr163
                    case hyr163 => (intro W hSw; (try dsimp only at hSw); (try obtain ⟨hSw1, hSw2⟩ := hSw); (try obtain ⟨hSw2, hSw3⟩ := hSw2); (try obtain ⟨hSw3, hSw4⟩ := hSw3); (try obtain ⟨hSw4, hSw5⟩ := hSw4); go_simp; first | done | with_reducible rfl)
                    simp only [Act.put, List.setIfInBounds_toArray, List.set_cons_zero, List.set_cons_succ]
                    refine wpAnyH_take (i := 4) (oi := ⟨some 90, _, _, _, _, _⟩) (v := ?vr164) rfl (by kernel_rfl) (by kernel_rfl) (by kernel_rfl) (fun _ _ _ h => h) (Or.inl ⟨by rfl, ?hyr164⟩) hHeld ?restr164
                    case hyr164 => (intro W hSw; (try dsimp only at hSw); (try obtain ⟨hSw1, hSw2⟩ := hSw); (try obtain ⟨hSw2, hSw3⟩ := hSw2); (try obtain ⟨hSw3, hSw4⟩ := hSw3); (try obtain ⟨hSw4, hSw5⟩ := hSw4); go_simp; first | done | with_reducible rfl)
                    simp only [Act.put, List.setIfInBounds_toArray, List.set_cons_zero, List.set_cons_succ]
                    refine wpAnyH_ready (rs := [2]) (by kernel_rfl) (by simp) ?_
                    refine AllReadyH.cons (o := ⟨some 88, _, _, _, _, _⟩) rfl (fun KK hK => ?_) AllReadyH.nil
                    go_simp
                    refine (CW.out wr.drew HP.out.drew).mono ?_; rintro e w21 ⟨rfl, hb21⟩
                    have HP21 := Lib.hid (HP.out.drew.below hb21)
                    clear hb21
                    go_wp2_with fail
                    refine hK.out _ _ ⟨HP21.out.x.cell 0 _ rfl, HP21.out.x.cell 1 _ rfl⟩ (fun hHeld2 => ?_)
                    clear hK KK
                    try simp only [Act.put, List.setIfInBounds_toArray, List.set_cons_zero, List.set_cons_succ]
                    refine wpAnyH_ready (rs := [5]) (by kernel_rfl) (by simp) ?_
                    refine AllReadyH.cons (o := ⟨some 91, _, _, _, _, _⟩) rfl (fun KK2 hK2 => ?_) AllReadyH.nil
                    go_simp
                    refine (DW.out w21 HP21.out).mono ?_; rintro e w22 ⟨rfl, hb22⟩
                    have HP22 := Lib.hid (HP21.out.below hb22)
                    clear hb22
                    go_wp2_with fail
                    refine hK2.out _ _ ⟨HP22.out.x.cell 0 _ rfl, HP22.out.x.cell 1 _ rfl⟩ (fun hHeld3 => ?_)
                    clear hK2 KK2
                    try simp only [Act.put, List.setIfInBounds_toArray, List.set_cons_zero, List.set_cons_succ]
                    refine wpAnyH_take (i := 6) (oi := ⟨some 92, _, _, _, _, _⟩) (v := ?vr176) rfl (by kernel_rfl) (by kernel_rfl) (by kernel_rfl) (fun _ _ _ h => h) (Or.inl ⟨by rfl, ?hyr176⟩) hHeld3 ?restr176
                    case hyr176 => (intro W hSw; (try dsimp only at hSw); (try obtain ⟨hSw1, hSw2⟩ := hSw); (try obtain ⟨hSw2, hSw3⟩ := hSw2); (try obtain ⟨hSw3, hSw4⟩ := hSw3); (try obtain ⟨hSw4, hSw5⟩ := hSw4); go_simp; first | done | with_reducible rfl)
                    simp only [Act.put, List.setIfInBounds_toArray, List.set_cons_zero, List.set_cons_succ]
                    refine wpAnyH_done (by kernel_rfl) ?_ _
                    clear hHeld hHeld2 hHeld3 e0 e1 CW DW HP HP21
                    go_wp2_with fail
                    go_roundw
                    case rel => exact ⟨j + 1, by omega, by first | rfl | go_num, HP22⟩
                    case measure => simp [intOf]; omega
                  · obtain rfl : j = 4 := by omega
                    have u5 : decide ((4 : Int) < 4) = false := by decide
                    go_wp2_with fail
                    go_roundw
                    case rel => exact ⟨k + 1, pd, cd, pr, cr, d, r, by omega, by omega, by first | rfl | go_num, HP, HO⟩
                    case measure => simp [intOf]; omega
            · have IN := Lib.hid (fun W => Ring.in_any y 0 3 W false (in_false hs))
              have hcr0 : codeR y = 1 := by unfold codeR; rw [if_neg hs]
              have htx : textM d r y = ByteArray.empty := by unfold textM; rw [if_neg hs]
              have hrr : readR d r y = r := by unfold readR; rw [if_neg hs]
              rw [hcr0] at EC RP
              rw [htx, hrr] at RP
              clear hcr0 hs htx hrr
              go_wp2_with fail
              refine (IN.out _).mono ?_; rintro e w13 ⟨rfl, hw13⟩
              subst hw13
              go_wp2_with fail
              refine (RP.out _ HP.out.en).mono ?_; rintro e w16 ⟨rfl, hE16, hg16⟩
              have HP16 := Lib.hid (HP.out.turn hE16 hg16)
              generalize er 1 = ve at EC ⊢
              clear hE16 hg16 HP RP y0
              go_wp2_with fail
              refine (EC.out _ HP16.out.bel).mono ?_; rintro e w17 ⟨rfl, hb17⟩
              have HP := Lib.hid (HP16.out.below hb17)
              have HIN := Lib.hid HP.out
              clear hb17 HP16 EC
              clear HIN
              go_wp2_with fail
              go_loopw [14] (fun jv wj => ∃ j : Nat, j ≤ 4 ∧ jv = .int .i64 (j : Int) ∧ Hid (Pm w wj g xb pd cd pr cr d r d r)) (fun j _ => 4 - (intOf j).toNat)
              case atStart => exact ⟨0, by omega, rfl, HP⟩
              case round =>
                clear HP
                obtain ⟨j, hj, rfl, HP⟩ := hrel
                by_cases hj4 : j < 4
                · have u5 : decide ((j : Int) < 4) = true := decide_eq_true (by omega)
                  have CW := Lib.hid (fun W (hW : Pm w W g xb pd cd pr cr d r d r) => waits_any g d r (j : Int) W hW.en HO.out (wait d (200 * j) (r j) : Int) (by unfold waitM; rw [if_pos (show isS (j : Int) from ⟨by omega, by omega⟩), Int.toNat_natCast]))
                  have DW := Lib.hid (fun W (hW : Pm w W g xb pd cd pr cr d r d r) => rwaits_any j W hj4 hW.m (HO.out.rd j))
                  obtain ⟨V, hV⟩ : ∃ V, wait d (200 * j) (r j) = V := ⟨_, rfl⟩
                  rw [hV] at CW DW
                  have u6 : ((V : Int) != (V : Int)) = false := by simp
                  have u7 : (V != V) = false := by simp
                  have e0 := HP.out.x.cell 0 _ rfl
                  have e1 := HP.out.x.cell 1 _ rfl
                  clear hV
                  go_wp2_with fail
                  refine wp_region_held_drew (S := (fun W' => W'.cell? ⟨xb, 0, none⟩ = some (.slice pd 800 cd) ∧ W'.cell? ⟨xb, 1, none⟩ = some (.slice pr 4 cr))) (by kernel_rfl) ⟨e0, e1⟩ (fun hHeld => ?_)
                  refine wpAnyH_take (i := 0) (oi := ⟨some 86, _, _, _, _, _⟩) (v := ?vr180) rfl (by kernel_rfl) (by kernel_rfl) (by kernel_rfl) (fun _ _ _ h => h) (Or.inl ⟨by rfl, ?hyr180⟩) hHeld ?restr180
                  case hyr180 => (intro W hSw; (try dsimp only at hSw); (try obtain ⟨hSw1, hSw2⟩ := hSw); (try obtain ⟨hSw2, hSw3⟩ := hSw2); (try obtain ⟨hSw3, hSw4⟩ := hSw3); (try obtain ⟨hSw4, hSw5⟩ := hSw4); go_simp; first | done | with_reducible rfl)
                  simp only [Act.put, List.setIfInBounds_toArray, List.set_cons_zero, List.set_cons_succ]
                  refine wpAnyH_take (i := 1) (oi := ⟨some 87, _, _, _, _, _⟩) (v := ?vr181) rfl (by kernel_rfl) (by kernel_rfl) (by kernel_rfl) (fun _ _ _ h => h) (Or.inl ⟨by rfl, ?hyr181⟩) hHeld ?restr181
                  case hyr181 => (intro W hSw; (try dsimp only at hSw); (try obtain ⟨hSw1, hSw2⟩ := hSw); (try obtain ⟨hSw2, hSw3⟩ := hSw2); (try obtain ⟨hSw3, hSw4⟩ := hSw3); (try obtain ⟨hSw4, hSw5⟩ := hSw4); go_simp; first | done | with_reducible rfl)
                  simp only [Act.put, List.setIfInBounds_toArray, List.set_cons_zero, List.set_cons_succ]
                  refine wpAnyH_take (i := 3) (oi := ⟨some 89, _, _, _, _, _⟩) (v := ?vr183) rfl (by kernel_rfl) (by kernel_rfl) (by kernel_rfl) (fun _ _ _ h => h) (Or.inl ⟨by rfl, ?hyr183⟩) hHeld ?restr183
                  case hyr183 => (intro W hSw; (try dsimp only at hSw); (try obtain ⟨hSw1, hSw2⟩ := hSw); (try obtain ⟨hSw2, hSw3⟩ := hSw2); (try obtain ⟨hSw3, hSw4⟩ := hSw3); (try obtain ⟨hSw4, hSw5⟩ := hSw4); go_simp; first | done | with_reducible rfl)
                  simp only [Act.put, List.setIfInBounds_toArray, List.set_cons_zero, List.set_cons_succ]
                  refine wpAnyH_take (i := 4) (oi := ⟨some 90, _, _, _, _, _⟩) (v := ?vr184) rfl (by kernel_rfl) (by kernel_rfl) (by kernel_rfl) (fun _ _ _ h => h) (Or.inl ⟨by rfl, ?hyr184⟩) hHeld ?restr184
                  case hyr184 => (intro W hSw; (try dsimp only at hSw); (try obtain ⟨hSw1, hSw2⟩ := hSw); (try obtain ⟨hSw2, hSw3⟩ := hSw2); (try obtain ⟨hSw3, hSw4⟩ := hSw3); (try obtain ⟨hSw4, hSw5⟩ := hSw4); go_simp; first | done | with_reducible rfl)
                  simp only [Act.put, List.setIfInBounds_toArray, List.set_cons_zero, List.set_cons_succ]
                  refine wpAnyH_ready (rs := [2]) (by kernel_rfl) (by simp) ?_
                  refine AllReadyH.cons (o := ⟨some 88, _, _, _, _, _⟩) rfl (fun KK hK => ?_) AllReadyH.nil
                  go_simp
                  refine (CW.out wr.drew HP.out.drew).mono ?_; rintro e w21 ⟨rfl, hb21⟩
                  have HP21 := Lib.hid (HP.out.drew.below hb21)
                  clear hb21
                  go_wp2_with fail
                  refine hK.out _ _ ⟨HP21.out.x.cell 0 _ rfl, HP21.out.x.cell 1 _ rfl⟩ (fun hHeld2 => ?_)
                  clear hK KK
                  try simp only [Act.put, List.setIfInBounds_toArray, List.set_cons_zero, List.set_cons_succ]
                  refine wpAnyH_ready (rs := [5]) (by kernel_rfl) (by simp) ?_
                  refine AllReadyH.cons (o := ⟨some 91, _, _, _, _, _⟩) rfl (fun KK2 hK2 => ?_) AllReadyH.nil
                  go_simp
                  refine (DW.out w21 HP21.out).mono ?_; rintro e w22 ⟨rfl, hb22⟩
                  have HP22 := Lib.hid (HP21.out.below hb22)
                  clear hb22
                  go_wp2_with fail
                  refine hK2.out _ _ ⟨HP22.out.x.cell 0 _ rfl, HP22.out.x.cell 1 _ rfl⟩ (fun hHeld3 => ?_)
                  clear hK2 KK2
                  try simp only [Act.put, List.setIfInBounds_toArray, List.set_cons_zero, List.set_cons_succ]
                  refine wpAnyH_take (i := 6) (oi := ⟨some 92, _, _, _, _, _⟩) (v := ?vr196) rfl (by kernel_rfl) (by kernel_rfl) (by kernel_rfl) (fun _ _ _ h => h) (Or.inl ⟨by rfl, ?hyr196⟩) hHeld3 ?restr196
                  case hyr196 => (intro W hSw; (try dsimp only at hSw); (try obtain ⟨hSw1, hSw2⟩ := hSw); (try obtain ⟨hSw2, hSw3⟩ := hSw2); (try obtain ⟨hSw3, hSw4⟩ := hSw3); (try obtain ⟨hSw4, hSw5⟩ := hSw4); go_simp; first | done | with_reducible rfl)
                  simp only [Act.put, List.setIfInBounds_toArray, List.set_cons_zero, List.set_cons_succ]
                  refine wpAnyH_done (by kernel_rfl) ?_ _
                  clear hHeld hHeld2 hHeld3 e0 e1 CW DW HP HP21
                  go_wp2_with fail
                  go_roundw
                  case rel => exact ⟨j + 1, by omega, by first | rfl | go_num, HP22⟩
                  case measure => simp [intOf]; omega
                · obtain rfl : j = 4 := by omega
                  have u5 : decide ((4 : Int) < 4) = false := by decide
                  go_wp2_with fail
                  go_roundw
                  case rel => exact ⟨k + 1, pd, cd, pr, cr, d, r, by omega, by omega, by first | rfl | go_num, HP, HO⟩
                  case measure => simp [intOf]; omega
          · have u3 : decide ((k : Int) < (m0 : Int)) = false := decide_eq_false (by omega)
            have HIN := Lib.hid HP.out
            clear HIN
            go_wp2_with fail
            go_loopw [14] (fun jv wj => ∃ j : Nat, j ≤ 4 ∧ jv = .int .i64 (j : Int) ∧ Hid (Pm w wj g xb pd cd pr cr d r d r)) (fun j _ => 4 - (intOf j).toNat)
            case atStart => exact ⟨0, by omega, rfl, HP⟩
            case round =>
              clear HP
              obtain ⟨j, hj, rfl, HP⟩ := hrel
              by_cases hj4 : j < 4
              · have u5 : decide ((j : Int) < 4) = true := decide_eq_true (by omega)
                have CW := Lib.hid (fun W (hW : Pm w W g xb pd cd pr cr d r d r) => waits_any g d r (j : Int) W hW.en HO.out (wait d (200 * j) (r j) : Int) (by unfold waitM; rw [if_pos (show isS (j : Int) from ⟨by omega, by omega⟩), Int.toNat_natCast]))
                have DW := Lib.hid (fun W (hW : Pm w W g xb pd cd pr cr d r d r) => rwaits_any j W hj4 hW.m (HO.out.rd j))
                obtain ⟨V, hV⟩ : ∃ V, wait d (200 * j) (r j) = V := ⟨_, rfl⟩
                rw [hV] at CW DW
                have u6 : ((V : Int) != (V : Int)) = false := by simp
                have u7 : (V != V) = false := by simp
                have e0 := HP.out.x.cell 0 _ rfl
                have e1 := HP.out.x.cell 1 _ rfl
                clear hV
                go_wp2_with fail
                refine wp_region_held_drew (S := (fun W' => W'.cell? ⟨xb, 0, none⟩ = some (.slice pd 800 cd) ∧ W'.cell? ⟨xb, 1, none⟩ = some (.slice pr 4 cr))) (by kernel_rfl) ⟨e0, e1⟩ (fun hHeld => ?_)
                refine wpAnyH_take (i := 0) (oi := ⟨some 86, _, _, _, _, _⟩) (v := ?vr200) rfl (by kernel_rfl) (by kernel_rfl) (by kernel_rfl) (fun _ _ _ h => h) (Or.inl ⟨by rfl, ?hyr200⟩) hHeld ?restr200
                case hyr200 => (intro W hSw; (try dsimp only at hSw); (try obtain ⟨hSw1, hSw2⟩ := hSw); (try obtain ⟨hSw2, hSw3⟩ := hSw2); (try obtain ⟨hSw3, hSw4⟩ := hSw3); (try obtain ⟨hSw4, hSw5⟩ := hSw4); go_simp; first | done | with_reducible rfl)
                simp only [Act.put, List.setIfInBounds_toArray, List.set_cons_zero, List.set_cons_succ]
                refine wpAnyH_take (i := 1) (oi := ⟨some 87, _, _, _, _, _⟩) (v := ?vr201) rfl (by kernel_rfl) (by kernel_rfl) (by kernel_rfl) (fun _ _ _ h => h) (Or.inl ⟨by rfl, ?hyr201⟩) hHeld ?restr201
                case hyr201 => (intro W hSw; (try dsimp only at hSw); (try obtain ⟨hSw1, hSw2⟩ := hSw); (try obtain ⟨hSw2, hSw3⟩ := hSw2); (try obtain ⟨hSw3, hSw4⟩ := hSw3); (try obtain ⟨hSw4, hSw5⟩ := hSw4); go_simp; first | done | with_reducible rfl)
                simp only [Act.put, List.setIfInBounds_toArray, List.set_cons_zero, List.set_cons_succ]
                refine wpAnyH_take (i := 3) (oi := ⟨some 89, _, _, _, _, _⟩) (v := ?vr203) rfl (by kernel_rfl) (by kernel_rfl) (by kernel_rfl) (fun _ _ _ h => h) (Or.inl ⟨by rfl, ?hyr203⟩) hHeld ?restr203
                case hyr203 => (intro W hSw; (try dsimp only at hSw); (try obtain ⟨hSw1, hSw2⟩ := hSw); (try obtain ⟨hSw2, hSw3⟩ := hSw2); (try obtain ⟨hSw3, hSw4⟩ := hSw3); (try obtain ⟨hSw4, hSw5⟩ := hSw4); go_simp; first | done | with_reducible rfl)
                simp only [Act.put, List.setIfInBounds_toArray, List.set_cons_zero, List.set_cons_succ]
                refine wpAnyH_take (i := 4) (oi := ⟨some 90, _, _, _, _, _⟩) (v := ?vr204) rfl (by kernel_rfl) (by kernel_rfl) (by kernel_rfl) (fun _ _ _ h => h) (Or.inl ⟨by rfl, ?hyr204⟩) hHeld ?restr204
                case hyr204 => (intro W hSw; (try dsimp only at hSw); (try obtain ⟨hSw1, hSw2⟩ := hSw); (try obtain ⟨hSw2, hSw3⟩ := hSw2); (try obtain ⟨hSw3, hSw4⟩ := hSw3); (try obtain ⟨hSw4, hSw5⟩ := hSw4); go_simp; first | done | with_reducible rfl)
                simp only [Act.put, List.setIfInBounds_toArray, List.set_cons_zero, List.set_cons_succ]
                refine wpAnyH_ready (rs := [2]) (by kernel_rfl) (by simp) ?_
                refine AllReadyH.cons (o := ⟨some 88, _, _, _, _, _⟩) rfl (fun KK hK => ?_) AllReadyH.nil
                go_simp
                refine (CW.out wr.drew HP.out.drew).mono ?_; rintro e w21 ⟨rfl, hb21⟩
                have HP21 := Lib.hid (HP.out.drew.below hb21)
                clear hb21
                go_wp2_with fail
                refine hK.out _ _ ⟨HP21.out.x.cell 0 _ rfl, HP21.out.x.cell 1 _ rfl⟩ (fun hHeld2 => ?_)
                clear hK KK
                try simp only [Act.put, List.setIfInBounds_toArray, List.set_cons_zero, List.set_cons_succ]
                refine wpAnyH_ready (rs := [5]) (by kernel_rfl) (by simp) ?_
                refine AllReadyH.cons (o := ⟨some 91, _, _, _, _, _⟩) rfl (fun KK2 hK2 => ?_) AllReadyH.nil
                go_simp
                refine (DW.out w21 HP21.out).mono ?_; rintro e w22 ⟨rfl, hb22⟩
                have HP22 := Lib.hid (HP21.out.below hb22)
                clear hb22
                go_wp2_with fail
                refine hK2.out _ _ ⟨HP22.out.x.cell 0 _ rfl, HP22.out.x.cell 1 _ rfl⟩ (fun hHeld3 => ?_)
                clear hK2 KK2
                try simp only [Act.put, List.setIfInBounds_toArray, List.set_cons_zero, List.set_cons_succ]
                refine wpAnyH_take (i := 6) (oi := ⟨some 92, _, _, _, _, _⟩) (v := ?vr216) rfl (by kernel_rfl) (by kernel_rfl) (by kernel_rfl) (fun _ _ _ h => h) (Or.inl ⟨by rfl, ?hyr216⟩) hHeld3 ?restr216
                case hyr216 => (intro W hSw; (try dsimp only at hSw); (try obtain ⟨hSw1, hSw2⟩ := hSw); (try obtain ⟨hSw2, hSw3⟩ := hSw2); (try obtain ⟨hSw3, hSw4⟩ := hSw3); (try obtain ⟨hSw4, hSw5⟩ := hSw4); go_simp; first | done | with_reducible rfl)
                simp only [Act.put, List.setIfInBounds_toArray, List.set_cons_zero, List.set_cons_succ]
                refine wpAnyH_done (by kernel_rfl) ?_ _
                clear hHeld hHeld2 hHeld3 e0 e1 CW DW HP HP21
                go_wp2_with fail
                go_roundw
                case rel => exact ⟨j + 1, by omega, by first | rfl | go_num, HP22⟩
                case measure => simp [intOf]; omega
              · obtain rfl : j = 4 := by omega
                have u5 : decide ((4 : Int) < 4) = false := by decide
                go_wp2_with fail
                go_roundw
                case rel => exact ⟨k + 1, pd, cd, pr, cr, d, r, by omega, by omega, by first | rfl | go_num, HP, HO⟩
                case measure => simp [intOf]; omega
      · have u2 : decide ((k : Int) < 30) = false := decide_eq_false (by omega)
        have W1 := Lib.hid (fun W (H : Mux.Ends W g d r) => waits_any g d r (-1) W H HO.out 0 (by unfold waitM; rw [if_neg (fun h => absurd h.1 (by decide))]))
        have W2 := Lib.hid (fun W (H : Mux.Ends W g d r) => waits_any g d r 4 W H HO.out 0 (by unfold waitM; rw [if_neg (fun h => absurd h.2 (by decide))]))
        go_wp2_with fail
        refine (W1.out _ HP.out.en).mono ?_; rintro e w4 ⟨rfl, hb4⟩
        have HP4 := Lib.hid (HP.out.below hb4)
        clear hb4 HP
        go_wp2_with fail
        refine (W2.out _ HP4.out.en).mono ?_; rintro e w5 ⟨rfl, hb5⟩
        have HP5 := Lib.hid (HP4.out.below hb5)
        clear hb5 HP4
        go_wp2_with fail
        go_ret
        exact ⟨rfl, HP5.out.bel⟩
    · have u1 : decide ((k : Int) < (n0 : Int)) = false := decide_eq_false (by omega)
      have W1 := Lib.hid (fun W (H : Mux.Ends W g d r) => waits_any g d r (-1) W H HO.out 0 (by unfold waitM; rw [if_neg (fun h => absurd h.1 (by decide))]))
      have W2 := Lib.hid (fun W (H : Mux.Ends W g d r) => waits_any g d r 4 W H HO.out 0 (by unfold waitM; rw [if_neg (fun h => absurd h.2 (by decide))]))
      go_wp2_with fail
      refine (W1.out _ HP.out.en).mono ?_; rintro e w4 ⟨rfl, hb4⟩
      have HP4 := Lib.hid (HP.out.below hb4)
      clear hb4 HP
      go_wp2_with fail
      refine (W2.out _ HP4.out.en).mono ?_; rintro e w5 ⟨rfl, hb5⟩
      have HP5 := Lib.hid (HP4.out.below hb5)
      clear hb5 HP4
      go_wp2_with fail
      go_ret
      exact ⟨rfl, HP5.out.bel⟩

theorem reads : Tryd.f4.params.toList.all (fun t => Tryd.prog.readableRec t && decide (t < Tryd.prog.types.size)) = true := by kernel_rfl
theorem et : Tryd.prog.globalNamed "errors.errorType" = some 0 := by kernel_rfl
theorem rt : (Tryd.prog.cutTypes.find? (·.1 == "internal/reflectlite.rtype")).map (·.2) = some 79 := by kernel_rfl
theorem oneRow : ((List.range Tryd.prog.types.size).filter fun t => Tryd.prog.rowNamed t [101, 114, 114, 111, 114]) = [29] := by kernel_rfl

theorem handle_of_laid {W : World} (h : laidMetH Tryd.prog Rows.muxPlaysRow.laid W) : Handle W := by
  have h' : laidMet Tryd.prog [] W ∧ handlesMet Tryd.prog Rows.muxPlaysRow.laid W := h
  obtain ⟨name, u, ty, e1, e2, e3, e4, e5⟩ := h'.2 _ (List.mem_singleton.2 rfl)
  have en : name = [101, 114, 114, 111, 114] := (Option.some.inj e1).symm
  subst en
  obtain rfl := Option.some.inj (rt.symm.trans e2)
  have hm : ty ∈ (List.range Tryd.prog.types.size).filter fun t => Tryd.prog.rowNamed t [101, 114, 114, 111, 114] := List.mem_filter.2 ⟨List.mem_range.2 e3, e4⟩
  rw [oneRow] at hm
  obtain rfl := List.mem_singleton.1 hm
  have hh : typeHandle Tryd.prog 29 = .pointer (some ⟨1, 29, none⟩) := by kernel_rfl
  rw [hh] at e5
  have e6 := World.var?_cell et e5 0
  unfold Handle
  simpa using e6

noncomputable def laidWorld (os : Os) : World :=
  { World.holding Tryd.prog os ⟨#[], #[], []⟩ with heap := (World.holding Tryd.prog os ⟨#[], #[], []⟩).heap.modify 0 fun
      | .cells _ t frozen => .cells #[.iface 79 (.agg #[.pointer (some ⟨1, 29, none⟩)])] t frozen
      | o => o }
theorem laid_met (os : Os) : laidMetH Tryd.prog Rows.muxPlaysRow.laid ((laidWorld os).forCall (fun _ _ => 0) ⟨#[], #[.slice none 0 0, .slice none 0 0], []⟩).memory :=
  laidMetH_of_parts (laidMet_nil _ _) (by kernel_rfl)
theorem reads_wit (os : Os) {H : Type} (enc : TypeId × Value → H) : ∃ places, DataW.whole enc Tryd.prog ((laidWorld os).forCall (fun _ _ => 0) ⟨#[], #[.slice none 0 0, .slice none 0 0], []⟩).memory Tryd.f4.params.toList Rows.muxPlaysSpec.vars false (#[.slice none 0 0, .slice none 0 0] : Array Value).toList 8 = some ([.nil, .nil], [], places) :=
  ⟨[], by kernel_rfl⟩

theorem contract (H : Type) (enc : TypeId × Value → H) (W : World) (base : Nat) (args : Array Value) (ds gs : List (DataW H)) (before : List MemPlace)
    (hval : ∀ (j : Nat) t v, Tryd.f4.params[j]? = some t → args[j]? = some v → Value.okWide Tryd.prog W .any base t v)
    (hW : DataW.Whole enc Tryd.prog Tryd.f4.params.toList Rows.muxPlaysSpec.vars false W args.toList ds gs before) (hL : laidMetH Tryd.prog Rows.muxPlaysRow.laid W) :
    Calls Tryd.prog 4 args W fun e W' => ∃ v, e = .returned v ∧ Rows.muxPlaysSpec.post enc Tryd.prog Tryd.f4 false true false false W args v W' := by
  have hW' := hW
  have hg := handle_of_laid hL
  obtain ⟨p, q, hA0, hV, rfl, hfz, hnd⟩ := hW
  have hA : DataW.TrodAll enc Tryd.prog W 0 (fun _ => true) true Tryd.f4.params.toList args.toList ds p := hA0
  have hlt := hA.lt
  rw [Tryd.params4] at hA hval
  obtain ⟨v0, vs0, d0, ds0, p0, q0, hargs, rfl, rfl, h0, r0⟩ := trodAll_cons hA
  obtain ⟨v1, vs1, d1, ds1, p1, q1, hvs1, rfl, rfl, h1, r1⟩ := trodAll_cons r0
  obtain ⟨hvsn, rfl, rfl⟩ := trodAll_nil r1
  simp only [hvsn, hvs1] at hargs
  obtain rfl : args = #[v0, v1] := by cases args; simp_all
  obtain ⟨p0a, cap0, l0, rfl, i0, f0, e0⟩ := Go.Proofs.YtcleanjacijfoaaDoor.Mux.open_frames (hval 0 22 v0 rfl rfl) h0 (fun x hx => hlt x (by simp [hx]))
  obtain ⟨p1a, cap1, l1, rfl, i1⟩ := open_intsl Tryd.underlying37 Tryd.underlying3 (by kernel_rfl) (hval 1 37 v1 rfl rfl) h1 (fun x hx => hlt x (by simp [hx]))
  obtain ⟨rfl, rfl⟩ := trodVars_none hV
  clear hA0
  exact law_post 4 laid reads rfl Tryd.underlying4 rfl hW' ⟨rfl, rfl, rfl⟩ (law_any p0a p1a cap0 cap1 l0 l1 W hg i0 i1 f0)

set_option maxRecDepth 100000 in
theorem lifted (os : Os) (started : os.Started) (H : Type) (enc : TypeId × Value → H) (F : Stop.Interp) :
    ReturnsInHanded {} Tryd.checked os 4 .any ((OpenSpec.ofChange Rows.muxPlaysSpec).preRow enc Tryd.prog Tryd.f4 Rows.muxPlaysRow.domain false Rows.muxPlaysRow.laid) (((OpenSpec.ofChange Rows.muxPlaysSpec).at F).post enc Tryd.prog Tryd.f4 false true false false) := by
  obtain ⟨places, hx⟩ := reads_wit os enc
  refine returnsInHanded_of_row (C := Tryd.checked) (s := (OpenSpec.ofChange Rows.muxPlaysSpec)) own started (by kernel_rfl) Tryd.func4
    (witness_row_at (enc := enc) (C := Tryd.checked) false (laidWorld os) #[.slice none 0 0, .slice none 0 0] rfl (by kernel_rfl) (by kernel_rfl) (by kernel_rfl)
      (OpenSpec.preRow_of_cond 8 hx (by kernel_rfl) (fun k hk => by cases hk) (by kernel_rfl) (laid_met os))) ?_
  intro W base args ds gs before hval hW _ hcond _ hL _ _
  exact contract H enc W base args ds gs before hval hW hL

theorem said : Rows.MuxPlaysSaid :=
  OpenClaim.holds_of_cond 4 Tryd.f4 rfl rfl rfl rfl rfl rfl rfl ⟨rfl, rfl, rfl, rfl, rfl⟩ rfl rfl rfl rfl rfl (by kernel_rfl) Tryd.func4 (by kernel_rfl)
    (of_decide_eq_true (by kernel_rfl)) (by unfold Func.isWrapper; first | (rw [if_pos (by decide +kernel)]; kernel_rfl) | (rw [if_neg (by decide +kernel)]; exact ⟨rfl, rfl⟩))
    (fun os started H enc _ F => by rw [OpenClaim.pre_eq_preRow]; exact lifted os started H enc F)

theorem plain (f : FuncId) (fn : Func) (hf : Tryd.pinned.checked.prog.funcNamed Rows.muxPlaysRow.func = some f) (hfn : Tryd.pinned.checked.prog.funcs[f]? = some fn) :
    true = Tryd.pinned.checked.prog.looks [] ∧ ∀ (j : Nat) t, fn.params[j]? = some t → Tryd.pinned.checked.prog.wantsStandIn t = false := by
  obtain rfl : f = 4 := Option.some.inj ((show Tryd.prog.funcNamed Rows.muxPlaysRow.func = some 4 by kernel_rfl).symm.trans hf) |>.symm
  obtain rfl : fn = Tryd.f4 := (Option.some.inj (Tryd.func4.symm.trans hfn)).symm
  refine ⟨by kernel_rfl, fun j t ht => ?_⟩
  have hall : Tryd.f4.params.toList.all (fun t => !Tryd.prog.wantsStandIn t) = true := by kernel_rfl
  have hm : t ∈ Tryd.f4.params.toList := by simpa using Array.mem_of_getElem? ht
  have := List.all_eq_true.1 hall t hm
  show Tryd.prog.wantsStandIn t = false
  simpa using this

theorem proved : Rows.MuxPlaysCardSaid :=
  Claim7.holds_tied_plain_at .later [] _ _ _ _ said (fun _ h => by cases h) (by kernel_rfl) (fun _ h => by cases h) muxPlays_row_tie rfl ⟨rfl, rfl⟩ (by kernel_rfl) rfl plain (by kernel_rfl)
end Go.Proofs.YtcleanjacijfoaaDoor.MuxPlaysL
