/- MuxClash: another byte where one came is refused and changes nothing; the same one is not: for every input, the row's handle laid as the card says. -/
import Derived.Test.YtcleanjacijfoaaDoorCards
import Derived.Test.YtcleanjacijfoaaDoorTie
import Derived.Deep.DeepHandedRow
import Derived.Lib.LaidTab
import Derived.LaidHandle
import Derived.SevenTiedAt
import Derived.Test.YtcleanjacijfoaaDoorMuxFact
import Derived.Test.YtcleanjacijfoaaDoorMuxLawM
import Derived.Test.YtcleanjacijfoaaDoorErrSame
namespace Go.Proofs.YtcleanjacijfoaaDoor.MuxClashL
open Go.ChangeShapes Go.WideShapes Go.ChangeAt Go.RowKit
open Go.Proofs.YtcleanjacijfoaaDoor.Kit Go.Proofs.YtcleanjacijfoaaDoor.App Go.Proofs.YtcleanjacijfoaaDoor.Cells Go.Proofs.YtcleanjacijfoaaDoor.Err Go.Proofs.YtcleanjacijfoaaDoor.As Go.Proofs.YtcleanjacijfoaaDoor.Mux
set_option linter.unusedVariables false
set_option maxRecDepth 20000
set_option maxHeartbeats 4000000

theorem law_any (p : Option Addr) (cap : Nat) (ls : List Frm) (f : Frm) (i c : Int) (w : World) (hg : Handle w) (hi : CI lay w p cap ls) (hcb : 0 ≤ c ∧ c ≤ 255) :
    Calls Tryd.prog 3 #[.slice p ls.length cap, val f, .int .i64 i, .int .u8 c] w fun e w' => e = .returned (.bool true) ∧ Below w.heap.size w w' := by
  have hgw := Lib.hid hg
  have HI := Lib.hid hi
  have hlen := hi.len_le
  have HOk := Lib.hid (show Okm z0 z0 from Okm.zero)
  obtain ⟨fa, fb, fs⟩ := f
  have HBX := Lib.hid (Box.new w ⟨fa, fb, fs⟩ 24)
  obtain ⟨gx, hgx⟩ : ∃ gx, w.heap.size = gx := ⟨_, rfl⟩
  unfold val
  clear hi hg
  go_enter Tryd.func3, Tryd.ntmps3
  go_wp2_with fail
  refine (fact_any _).mono ?_; rintro e w1 ⟨rfl, hb1⟩
  have HB := Lib.hid (bcall (balloc (brefl w) _) hb1)
  replace HBX := Lib.hid (HBX.out.below hb1 HBX.out.1)
  have HI1 := Lib.hid ((HI.out.below (balloc (brefl w) _)).below hb1)
  clear hb1 HI
  go_wp2_with fail
  refine (new_any _).mono ?_; rintro e w2 ⟨rfl, hE, hb2⟩
  obtain ⟨g, hg⟩ : ∃ g, w1.heap.size = g := ⟨_, rfl⟩
  have HG : Hid (w.heap.size ≤ g) := Lib.hid (by rw [← hg]; exact HB.out.size)
  have HXG : Hid (gx ≠ g) := Lib.hid (by have := HBX.out.1; omega)
  rw [hg] at hE ⊢
  rw [hgx] at HBX
  have HE2 := Lib.hid (show Mux.Ends w2 g z0 z0 from hE)
  have HI2 := Lib.hid (HI1.out.below hb2)
  replace HBX := Lib.hid (HBX.out.below hb2 HBX.out.1)
  replace HB := Lib.hid (bcall HB.out hb2)
  have HG2 : Hid (∀ a, p = some a → 0 < ls.length → a.block < g) := Lib.hid (fun a ha h0 => by
    obtain ⟨b, off, e, hb, _⟩ := HI1.out.2.2 h0
    rw [e] at ha
    injection ha with ha
    rw [← ha, ← hg]
    exact hb)
  have HBX2 := Lib.hid HBX.out
  have HGX := Lib.hid hgx
  clear hE hb2 hg HI1 HBX hgx
  go_wp2_with fail
  obtain ⟨n0, hn⟩ : ∃ n, ls.length = n := ⟨_, rfl⟩
  rw [hn] at hlen HG2 ⊢
  have HN := Lib.hid hn
  clear hn
  go_loopw [11] (fun iv wr => ∃ (k : Nat) (d : Nat → Nat), k ≤ n0 ∧ iv = .int .i64 (k : Int) ∧ Hid (Mux.Ends wr g d z0) ∧ Hid (Okm d z0) ∧ Hid (w2.grownBy wr (some g))) (fun i _ => n0 - (intOf i).toNat)
  case atStart => exact ⟨0, z0, Nat.zero_le _, rfl, HE2, HOk, Lib.hid (grefl _ _)⟩
  case round =>
    obtain ⟨k0, d, hk, rfl, HE, HO, HW⟩ := hrel
    clear HE2 HOk
    by_cases hlt : k0 < n0 ∧ k0 < 30
    · obtain ⟨h1, h2⟩ := hlt
      have u1 : decide ((k0 : Int) < (n0 : Int)) = true := decide_eq_true (by omega)
      have u2 : decide ((k0 : Int) < 30) = true := decide_eq_true (by omega)
      obtain ⟨b, off, rfl, hbl, hc⟩ := HI2.out.2.2 (by rw [HN.out]; omega)
      have hbg : b < g := HG2.out _ rfl (by omega)
      obtain ⟨x, hx⟩ : ∃ x, ls[k0]? = some x := ⟨_, List.getElem?_eq_getElem (by rw [HN.out]; exact h1)⟩
      have hkeep : wr.heap[b]? = w2.heap[b]? := HW.out.block b hbl (by simp; omega)
      have q0 : wr.cell? ⟨b, off + k0 * 3, none⟩ = some (.int .i64 x.st) := (World.cell?_of_block (w := w2) (a := ⟨b, off + k0 * 3, none⟩) hkeep).trans (hc k0 x hx 0 _ rfl)
      have q1 : wr.cell? ⟨b, off + k0 * 3 + 1, none⟩ = some (.int .i64 x.pos) := (World.cell?_of_block (w := w2) (a := ⟨b, off + k0 * 3 + 1, none⟩) hkeep).trans (hc k0 x hx 1 _ rfl)
      have q2 : wr.cell? ⟨b, off + k0 * 3 + 2, none⟩ = some (.string x.dat) := (World.cell?_of_block (w := w2) (a := ⟨b, off + k0 * 3 + 2, none⟩) hkeep).trans (hc k0 x hx 2 _ rfl)
      obtain ⟨cc, hcc⟩ : ∃ cc, codeM d x = cc := ⟨_, rfl⟩
      obtain ⟨D, hD⟩ : ∃ D, putM d x = D := ⟨_, rfl⟩
      have P := Lib.hid (put_any g d z0 x wr HE.out cc hcc D hD)
      have HO2 : Hid (Okm D z0) := Lib.hid (by rw [← hD]; exact HO.out.put x)
      unfold val at P
      clear hc hx hkeep hcc hD
      obtain ⟨xa, xb, xs⟩ := x
      simp only at q0 q1 q2 P
      go_wp2_with fail
      refine P.out.mono ?_; rintro e w3 ⟨rfl, hE3, hg3⟩
      have HE3 := Lib.hid hE3
      have HW3 := Lib.hid (gtrans HW.out hg3)
      generalize er cc = ev
      clear hE3 hg3 P q0 q1 q2
      go_wp2_with fail
      go_roundw
      case rel => exact ⟨k0 + 1, D, by omega, by first | rfl | go_num, HE3, HO2, HW3⟩
      case measure => simp [intOf]; omega
    · have HBX := Lib.hid (HBX2.out.more HW.out HXG.out)
      replace HB := Lib.hid (gb HB.out HW.out HG.out)
      clear HW HI2 HG2 HBX2
      by_cases h1 : k0 < n0
      · have u1 : decide ((k0 : Int) < (n0 : Int)) = true := decide_eq_true (by omega)
        have u2 : decide ((k0 : Int) < 30) = false := decide_eq_false (by omega)
        clear hlt
        obtain ⟨n, hn⟩ : ∃ n, fs.size = n := ⟨_, rfl⟩
        have hn2 : (fs.size : Int) = (n : Int) := by rw [hn]
        by_cases hc : codeM d ⟨fa, fb, fs⟩ = 0
        · have hok := codeM_ok hc
          have hfb1 : 0 ≤ fb := hok.2.1.1
          have hfb2 : fb ≤ 200 := hok.2.1.2
          have hfb3 : n ≤ 200 := by have := hok.2.2.1; have h5 : ((⟨fa, fb, fs⟩ : Frm).dat.size : Int) = (n : Int) := by show (fs.size : Int) = _; rw [hn]
                                    rw [h5] at this; have h6 : (⟨fa, fb, fs⟩ : Frm).pos = fb := rfl
                                    rw [h6] at this; omega
          have hs2 : isS fa := (codeM_ok hc).1
          obtain ⟨t1, t2⟩ := put_twice hc
          obtain ⟨D, hD⟩ : ∃ D, putM d ⟨fa, fb, fs⟩ = D := ⟨_, rfl⟩
          have HO2 : Hid (Okm D z0) := Lib.hid (by rw [← hD]; exact HO.out.put _)
          have P1 := Lib.hid (fun W (H : Mux.Ends W g d z0) => put_any g d z0 ⟨fa, fb, fs⟩ W H 0 hc D hD)
          rw [hD] at t1 t2
          have P2 := Lib.hid (fun W (H : Mux.Ends W g D z0) => put_any g D z0 ⟨fa, fb, fs⟩ W H 0 t1 D t2)
          rw [er_0] at P1 P2
          unfold val at P1 P2
          have IS := Lib.hid (fun W => Ring.in_any fa 0 3 W true (in_true hs2))
          obtain ⟨V, hV⟩ : ∃ V, waitM D z0 fa = V := ⟨_, rfl⟩
          have W1 := Lib.hid (fun W (H : Mux.Ends W g D z0) => waits_any g D z0 fa W H HO2.out V hV)
          by_cases hik : 0 ≤ i ∧ i ≤ (n : Int) - 1
          · obtain ⟨k, rfl⟩ : ∃ k : Nat, i = (k : Int) := ⟨i.toNat, by omega⟩
            have hkn : k < n := by omega
            have hks : k < fs.size := by rw [hn]; exact hkn
            have IK := Lib.hid (fun W => Ring.in_any (k : Int) 0 ((n : Int) - 1) W true (in_true hik))
            obtain ⟨y, hy, hy2⟩ : ∃ y, (fs[k]'hks).toNat = y ∧ y < 256 := ⟨_, rfl, (fs[k]'hks).toNat_lt⟩
            obtain ⟨z, hz⟩ : ∃ z : UInt8, (z.toNat : Int) = c := ⟨UInt8.ofNat c.toNat, by rw [UInt8.toNat_ofNat']; omega⟩
            subst hz
            have hbl : bl ⟨[z].toArray⟩ = [z.toNat] := rfl
            obtain ⟨f1, f2⟩ := frame_one hc hks ⟨[z].toArray⟩ z.toNat hbl
            rw [hD] at f1 f2
            simp only [hy] at f1 f2
            have hcv : ∀ W : World, (convert 34 9 (.slice (some ⟨W.heap.size, 0, none⟩) 1 1)).run Tryd.prog (W.alloc (.cells #[.int .u8 (z.toNat : Int)] 5)) = .ok (.string ⟨[z].toArray⟩) (W.alloc (.cells #[.int .u8 (z.toNat : Int)] 5)) := fun W => Part.to_text (CI.one Part.layB W z 5)
            have HCV := Lib.hid hcv
            obtain ⟨tx, htx⟩ : ∃ tx : ByteArray, tx = ⟨[z].toArray⟩ := ⟨_, rfl⟩
            rw [← htx] at f1 f2
            simp only [← htx] at HCV
            have FO := Lib.hid (fun W => frame_any fa (fb + (k : Int)) tx W)
            unfold val at FO
            obtain ⟨x, hx⟩ : ∃ x, z.toNat = x := ⟨_, rfl⟩
            have hxz : (z.toNat : Int) = (x : Int) := by rw [hx]
            simp only [hx] at f1 f2
            simp only [hxz] at HCV ⊢
            clear hcv hbl htx
            by_cases he : x = y
            · obtain ⟨g1, g2⟩ := f1 he
              have P3 := Lib.hid (fun W (H : Mux.Ends W g D z0) => put_any g D z0 ⟨fa, fb + (k : Int), tx⟩ W H 0 g1 D g2)
              rw [er_0] at P3
              unfold val at P3
              have y1 : ((y : Int) == (x : Int)) = true := by simp [he]
              have y2 : (V == V) = true := by simp
              subst he
              clear f1 f2 g1 g2 hok hc hs2 t1 t2 hD hV hik
              have x0 : wr.cell? ⟨gx, 0, none⟩ = some (.int .i64 fa) := HBX.out.2.1
              have x1 : wr.cell? ⟨gx, 1, none⟩ = some (.int .i64 fb) := HBX.out.2.2.1
              have x2 : wr.cell? ⟨gx, 2, none⟩ = some (.string fs) := HBX.out.2.2.2
              go_wp2_with fail
              refine (P1.out _ HE.out).mono ?_; rintro e w4 ⟨rfl, hE, hg1⟩
              replace HBX := Lib.hid (HBX.out.more hg1 HXG.out)
              replace HB := Lib.hid (gb HB.out hg1 HG.out)
              replace HE := Lib.hid hE
              clear hE hg1
              have x0 : w4.cell? ⟨gx, 0, none⟩ = some (.int .i64 fa) := HBX.out.2.1
              have x1 : w4.cell? ⟨gx, 1, none⟩ = some (.int .i64 fb) := HBX.out.2.2.1
              have x2 : w4.cell? ⟨gx, 2, none⟩ = some (.string fs) := HBX.out.2.2.2
              clear x1 x2
              go_wp2_with fail
              refine (IS.out _).mono ?_; rintro e w5 ⟨rfl, rfl⟩
              have x0 : w5.cell? ⟨gx, 0, none⟩ = some (.int .i64 fa) := HBX.out.2.1
              have x1 : w5.cell? ⟨gx, 1, none⟩ = some (.int .i64 fb) := HBX.out.2.2.1
              have x2 : w5.cell? ⟨gx, 2, none⟩ = some (.string fs) := HBX.out.2.2.2
              go_wp2_with fail
              refine (P2.out _ HE.out).mono ?_; rintro e w6 ⟨rfl, hE, hg1⟩
              replace HBX := Lib.hid (HBX.out.more hg1 HXG.out)
              replace HB := Lib.hid (gb HB.out hg1 HG.out)
              replace HE := Lib.hid hE
              clear hE hg1
              have x0 : w6.cell? ⟨gx, 0, none⟩ = some (.int .i64 fa) := HBX.out.2.1
              have x1 : w6.cell? ⟨gx, 1, none⟩ = some (.int .i64 fb) := HBX.out.2.2.1
              have x2 : w6.cell? ⟨gx, 2, none⟩ = some (.string fs) := HBX.out.2.2.2
              clear x1 x2
              go_wp2_with fail
              refine (W1.out _ HE.out).mono ?_; rintro e w7 ⟨rfl, hb⟩
              replace HBX := Lib.hid (HBX.out.below hb HBX.out.1)
              replace HE := Lib.hid (HE.out.below hb)
              replace HB := Lib.hid (bcall HB.out hb)
              clear hb
              have x0 : w7.cell? ⟨gx, 0, none⟩ = some (.int .i64 fa) := HBX.out.2.1
              have x1 : w7.cell? ⟨gx, 1, none⟩ = some (.int .i64 fb) := HBX.out.2.2.1
              have x2 : w7.cell? ⟨gx, 2, none⟩ = some (.string fs) := HBX.out.2.2.2
              clear x0 x1
              go_wp2_with fail
              refine (IK.out _).mono ?_; rintro e w8 ⟨rfl, rfl⟩
              have x0 : w8.cell? ⟨gx, 0, none⟩ = some (.int .i64 fa) := HBX.out.2.1
              have x1 : w8.cell? ⟨gx, 1, none⟩ = some (.int .i64 fb) := HBX.out.2.2.1
              have x2 : w8.cell? ⟨gx, 2, none⟩ = some (.string fs) := HBX.out.2.2.2
              clear x2
              have hcv := HCV.out w8
              go_wp2_with fail
              replace HBX := Lib.hid (HBX.out.below (balloc (brefl w8) (.cells #[.int .u8 (x : Int)] 5)) HBX.out.1)
              replace HE := Lib.hid (HE.out.alloc (.cells #[.int .u8 (x : Int)] 5))
              replace HB := Lib.hid (balloc HB.out (.cells #[.int .u8 (x : Int)] 5))
              clear hcv HCV
              refine (FO.out _).mono ?_; rintro e w9 ⟨rfl, hb⟩
              replace HBX := Lib.hid (HBX.out.below hb HBX.out.1)
              replace HE := Lib.hid (HE.out.below hb)
              replace HB := Lib.hid (bcall HB.out hb)
              clear hb
              go_wp2_with fail
              refine (P3.out _ HE.out).mono ?_; rintro e w10 ⟨rfl, hE, hg1⟩
              replace HBX := Lib.hid (HBX.out.more hg1 HXG.out)
              replace HB := Lib.hid (gb HB.out hg1 HG.out)
              replace HE := Lib.hid hE
              clear hE hg1
              have x0 : w10.cell? ⟨gx, 0, none⟩ = some (.int .i64 fa) := HBX.out.2.1
              have x1 : w10.cell? ⟨gx, 1, none⟩ = some (.int .i64 fb) := HBX.out.2.2.1
              have x2 : w10.cell? ⟨gx, 2, none⟩ = some (.string fs) := HBX.out.2.2.2
              go_wp2_with fail
              refine (W1.out _ HE.out).mono ?_; rintro e w11 ⟨rfl, hb⟩
              replace HBX := Lib.hid (HBX.out.below hb HBX.out.1)
              replace HE := Lib.hid (HE.out.below hb)
              replace HB := Lib.hid (bcall HB.out hb)
              clear hb
              go_wp2_with fail
              go_ret
              exact ⟨rfl, HB.out⟩
            · obtain ⟨g1, g2⟩ := f2 he
              have P3 := Lib.hid (fun W (H : Mux.Ends W g D z0) => put_any g D z0 ⟨fa, fb + (k : Int), tx⟩ W H 6 g1 D g2)
              have ES := Lib.hid (fun W (h : Handle W) => err_same 6 W h)
              rw [er_6] at P3 ES
              unfold val at P3
              have y1 : ((y : Int) == (x : Int)) = false := by rw [beq_eq_false_iff_ne]; omega
              have y2 : (V == V) = true := by simp
              have y3 : (y == x) = false := by rw [beq_eq_false_iff_ne]; omega
              clear f1 f2 g1 g2 hok hc hs2 t1 t2 hD hV hik he
              have x0 : wr.cell? ⟨gx, 0, none⟩ = some (.int .i64 fa) := HBX.out.2.1
              have x1 : wr.cell? ⟨gx, 1, none⟩ = some (.int .i64 fb) := HBX.out.2.2.1
              have x2 : wr.cell? ⟨gx, 2, none⟩ = some (.string fs) := HBX.out.2.2.2
              go_wp2_with fail
              refine (P1.out _ HE.out).mono ?_; rintro e w4 ⟨rfl, hE, hg1⟩
              replace HBX := Lib.hid (HBX.out.more hg1 HXG.out)
              replace HB := Lib.hid (gb HB.out hg1 HG.out)
              replace HE := Lib.hid hE
              clear hE hg1
              have x0 : w4.cell? ⟨gx, 0, none⟩ = some (.int .i64 fa) := HBX.out.2.1
              have x1 : w4.cell? ⟨gx, 1, none⟩ = some (.int .i64 fb) := HBX.out.2.2.1
              have x2 : w4.cell? ⟨gx, 2, none⟩ = some (.string fs) := HBX.out.2.2.2
              clear x1 x2
              go_wp2_with fail
              refine (IS.out _).mono ?_; rintro e w5 ⟨rfl, rfl⟩
              have x0 : w5.cell? ⟨gx, 0, none⟩ = some (.int .i64 fa) := HBX.out.2.1
              have x1 : w5.cell? ⟨gx, 1, none⟩ = some (.int .i64 fb) := HBX.out.2.2.1
              have x2 : w5.cell? ⟨gx, 2, none⟩ = some (.string fs) := HBX.out.2.2.2
              go_wp2_with fail
              refine (P2.out _ HE.out).mono ?_; rintro e w6 ⟨rfl, hE, hg1⟩
              replace HBX := Lib.hid (HBX.out.more hg1 HXG.out)
              replace HB := Lib.hid (gb HB.out hg1 HG.out)
              replace HE := Lib.hid hE
              clear hE hg1
              have x0 : w6.cell? ⟨gx, 0, none⟩ = some (.int .i64 fa) := HBX.out.2.1
              have x1 : w6.cell? ⟨gx, 1, none⟩ = some (.int .i64 fb) := HBX.out.2.2.1
              have x2 : w6.cell? ⟨gx, 2, none⟩ = some (.string fs) := HBX.out.2.2.2
              clear x1 x2
              go_wp2_with fail
              refine (W1.out _ HE.out).mono ?_; rintro e w7 ⟨rfl, hb⟩
              replace HBX := Lib.hid (HBX.out.below hb HBX.out.1)
              replace HE := Lib.hid (HE.out.below hb)
              replace HB := Lib.hid (bcall HB.out hb)
              clear hb
              have x0 : w7.cell? ⟨gx, 0, none⟩ = some (.int .i64 fa) := HBX.out.2.1
              have x1 : w7.cell? ⟨gx, 1, none⟩ = some (.int .i64 fb) := HBX.out.2.2.1
              have x2 : w7.cell? ⟨gx, 2, none⟩ = some (.string fs) := HBX.out.2.2.2
              clear x0 x1
              go_wp2_with fail
              refine (IK.out _).mono ?_; rintro e w8 ⟨rfl, rfl⟩
              have x0 : w8.cell? ⟨gx, 0, none⟩ = some (.int .i64 fa) := HBX.out.2.1
              have x1 : w8.cell? ⟨gx, 1, none⟩ = some (.int .i64 fb) := HBX.out.2.2.1
              have x2 : w8.cell? ⟨gx, 2, none⟩ = some (.string fs) := HBX.out.2.2.2
              clear x2
              have hcv := HCV.out w8
              go_wp2_with fail
              replace HBX := Lib.hid (HBX.out.below (balloc (brefl w8) (.cells #[.int .u8 (x : Int)] 5)) HBX.out.1)
              replace HE := Lib.hid (HE.out.alloc (.cells #[.int .u8 (x : Int)] 5))
              replace HB := Lib.hid (balloc HB.out (.cells #[.int .u8 (x : Int)] 5))
              clear hcv HCV
              refine (FO.out _).mono ?_; rintro e w9 ⟨rfl, hb⟩
              replace HBX := Lib.hid (HBX.out.below hb HBX.out.1)
              replace HE := Lib.hid (HE.out.below hb)
              replace HB := Lib.hid (bcall HB.out hb)
              clear hb
              go_wp2_with fail
              refine (P3.out _ HE.out).mono ?_; rintro e w10 ⟨rfl, hE, hg1⟩
              replace HBX := Lib.hid (HBX.out.more hg1 HXG.out)
              replace HB := Lib.hid (gb HB.out hg1 HG.out)
              replace HE := Lib.hid hE
              clear hE hg1
              have x0 : w10.cell? ⟨gx, 0, none⟩ = some (.int .i64 fa) := HBX.out.2.1
              have x1 : w10.cell? ⟨gx, 1, none⟩ = some (.int .i64 fb) := HBX.out.2.2.1
              have x2 : w10.cell? ⟨gx, 2, none⟩ = some (.string fs) := HBX.out.2.2.2
              clear x0 x1
              go_wp2_with fail
              refine (ES.out _ (hgw.out.below HB.out)).mono ?_; rintro e w11 ⟨rfl, hb⟩
              replace HBX := Lib.hid (HBX.out.below hb HBX.out.1)
              replace HE := Lib.hid (HE.out.below hb)
              replace HB := Lib.hid (bcall HB.out hb)
              clear hb
              have x0 : w11.cell? ⟨gx, 0, none⟩ = some (.int .i64 fa) := HBX.out.2.1
              have x1 : w11.cell? ⟨gx, 1, none⟩ = some (.int .i64 fb) := HBX.out.2.2.1
              have x2 : w11.cell? ⟨gx, 2, none⟩ = some (.string fs) := HBX.out.2.2.2
              clear x1 x2
              go_wp2_with fail
              refine (W1.out _ HE.out).mono ?_; rintro e w12 ⟨rfl, hb⟩
              replace HBX := Lib.hid (HBX.out.below hb HBX.out.1)
              replace HE := Lib.hid (HE.out.below hb)
              replace HB := Lib.hid (bcall HB.out hb)
              clear hb
              have x0 : w12.cell? ⟨gx, 0, none⟩ = some (.int .i64 fa) := HBX.out.2.1
              have x1 : w12.cell? ⟨gx, 1, none⟩ = some (.int .i64 fb) := HBX.out.2.2.1
              have x2 : w12.cell? ⟨gx, 2, none⟩ = some (.string fs) := HBX.out.2.2.2
              go_wp2_with fail
              refine (P2.out _ HE.out).mono ?_; rintro e w13 ⟨rfl, hE, hg1⟩
              replace HBX := Lib.hid (HBX.out.more hg1 HXG.out)
              replace HB := Lib.hid (gb HB.out hg1 HG.out)
              replace HE := Lib.hid hE
              clear hE hg1
              go_wp2_with fail
              go_ret
              exact ⟨rfl, HB.out⟩
          · have IK := Lib.hid (fun W => Ring.in_any i 0 ((n : Int) - 1) W false (in_false hik))
            clear hok hc hs2 t1 t2 hD hV hik
            have x0 : wr.cell? ⟨gx, 0, none⟩ = some (.int .i64 fa) := HBX.out.2.1
            have x1 : wr.cell? ⟨gx, 1, none⟩ = some (.int .i64 fb) := HBX.out.2.2.1
            have x2 : wr.cell? ⟨gx, 2, none⟩ = some (.string fs) := HBX.out.2.2.2
            go_wp2_with fail
            refine (P1.out _ HE.out).mono ?_; rintro e w4 ⟨rfl, hE, hg1⟩
            replace HBX := Lib.hid (HBX.out.more hg1 HXG.out)
            replace HB := Lib.hid (gb HB.out hg1 HG.out)
            replace HE := Lib.hid hE
            clear hE hg1
            have x0 : w4.cell? ⟨gx, 0, none⟩ = some (.int .i64 fa) := HBX.out.2.1
            have x1 : w4.cell? ⟨gx, 1, none⟩ = some (.int .i64 fb) := HBX.out.2.2.1
            have x2 : w4.cell? ⟨gx, 2, none⟩ = some (.string fs) := HBX.out.2.2.2
            clear x1 x2
            go_wp2_with fail
            refine (IS.out _).mono ?_; rintro e w5 ⟨rfl, rfl⟩
            have x0 : w5.cell? ⟨gx, 0, none⟩ = some (.int .i64 fa) := HBX.out.2.1
            have x1 : w5.cell? ⟨gx, 1, none⟩ = some (.int .i64 fb) := HBX.out.2.2.1
            have x2 : w5.cell? ⟨gx, 2, none⟩ = some (.string fs) := HBX.out.2.2.2
            go_wp2_with fail
            refine (P2.out _ HE.out).mono ?_; rintro e w6 ⟨rfl, hE, hg1⟩
            replace HBX := Lib.hid (HBX.out.more hg1 HXG.out)
            replace HB := Lib.hid (gb HB.out hg1 HG.out)
            replace HE := Lib.hid hE
            clear hE hg1
            have x0 : w6.cell? ⟨gx, 0, none⟩ = some (.int .i64 fa) := HBX.out.2.1
            have x1 : w6.cell? ⟨gx, 1, none⟩ = some (.int .i64 fb) := HBX.out.2.2.1
            have x2 : w6.cell? ⟨gx, 2, none⟩ = some (.string fs) := HBX.out.2.2.2
            clear x1 x2
            go_wp2_with fail
            refine (W1.out _ HE.out).mono ?_; rintro e w7 ⟨rfl, hb⟩
            replace HBX := Lib.hid (HBX.out.below hb HBX.out.1)
            replace HE := Lib.hid (HE.out.below hb)
            replace HB := Lib.hid (bcall HB.out hb)
            clear hb
            have x0 : w7.cell? ⟨gx, 0, none⟩ = some (.int .i64 fa) := HBX.out.2.1
            have x1 : w7.cell? ⟨gx, 1, none⟩ = some (.int .i64 fb) := HBX.out.2.2.1
            have x2 : w7.cell? ⟨gx, 2, none⟩ = some (.string fs) := HBX.out.2.2.2
            clear x0 x1
            go_wp2_with fail
            refine (IK.out _).mono ?_; rintro e w8 ⟨rfl, rfl⟩
            go_wp2_with fail
            go_ret
            exact ⟨rfl, HB.out⟩
        · obtain ⟨cc, hcc⟩ : ∃ cc, codeM d ⟨fa, fb, fs⟩ = cc := ⟨_, rfl⟩
          have P1 := Lib.hid (fun W (H : Mux.Ends W g d z0) => put_any g d z0 ⟨fa, fb, fs⟩ W H cc hcc _ rfl)
          generalize putM d ⟨fa, fb, fs⟩ = D at P1
          have hev : er cc = .iface 57 (.int .i64 cc) := by unfold er; rw [if_neg (by rw [← hcc]; exact hc)]
          rw [hev] at P1
          unfold val at P1
          clear hev hcc hc
          have x0 : wr.cell? ⟨gx, 0, none⟩ = some (.int .i64 fa) := HBX.out.2.1
          have x1 : wr.cell? ⟨gx, 1, none⟩ = some (.int .i64 fb) := HBX.out.2.2.1
          have x2 : wr.cell? ⟨gx, 2, none⟩ = some (.string fs) := HBX.out.2.2.2
          go_wp2_with fail
          refine (P1.out _ HE.out).mono ?_; rintro e w4 ⟨rfl, hE, hg1⟩
          replace HBX := Lib.hid (HBX.out.more hg1 HXG.out)
          replace HB := Lib.hid (gb HB.out hg1 HG.out)
          replace HE := Lib.hid hE
          clear hE hg1
          go_wp2_with fail
          go_ret
          exact ⟨rfl, HB.out⟩
      · have u1 : decide ((k0 : Int) < (n0 : Int)) = false := decide_eq_false (by omega)
        clear hlt
        obtain ⟨n, hn⟩ : ∃ n, fs.size = n := ⟨_, rfl⟩
        have hn2 : (fs.size : Int) = (n : Int) := by rw [hn]
        by_cases hc : codeM d ⟨fa, fb, fs⟩ = 0
        · have hok := codeM_ok hc
          have hfb1 : 0 ≤ fb := hok.2.1.1
          have hfb2 : fb ≤ 200 := hok.2.1.2
          have hfb3 : n ≤ 200 := by have := hok.2.2.1; have h5 : ((⟨fa, fb, fs⟩ : Frm).dat.size : Int) = (n : Int) := by show (fs.size : Int) = _; rw [hn]
                                    rw [h5] at this; have h6 : (⟨fa, fb, fs⟩ : Frm).pos = fb := rfl
                                    rw [h6] at this; omega
          have hs2 : isS fa := (codeM_ok hc).1
          obtain ⟨t1, t2⟩ := put_twice hc
          obtain ⟨D, hD⟩ : ∃ D, putM d ⟨fa, fb, fs⟩ = D := ⟨_, rfl⟩
          have HO2 : Hid (Okm D z0) := Lib.hid (by rw [← hD]; exact HO.out.put _)
          have P1 := Lib.hid (fun W (H : Mux.Ends W g d z0) => put_any g d z0 ⟨fa, fb, fs⟩ W H 0 hc D hD)
          rw [hD] at t1 t2
          have P2 := Lib.hid (fun W (H : Mux.Ends W g D z0) => put_any g D z0 ⟨fa, fb, fs⟩ W H 0 t1 D t2)
          rw [er_0] at P1 P2
          unfold val at P1 P2
          have IS := Lib.hid (fun W => Ring.in_any fa 0 3 W true (in_true hs2))
          obtain ⟨V, hV⟩ : ∃ V, waitM D z0 fa = V := ⟨_, rfl⟩
          have W1 := Lib.hid (fun W (H : Mux.Ends W g D z0) => waits_any g D z0 fa W H HO2.out V hV)
          by_cases hik : 0 ≤ i ∧ i ≤ (n : Int) - 1
          · obtain ⟨k, rfl⟩ : ∃ k : Nat, i = (k : Int) := ⟨i.toNat, by omega⟩
            have hkn : k < n := by omega
            have hks : k < fs.size := by rw [hn]; exact hkn
            have IK := Lib.hid (fun W => Ring.in_any (k : Int) 0 ((n : Int) - 1) W true (in_true hik))
            obtain ⟨y, hy, hy2⟩ : ∃ y, (fs[k]'hks).toNat = y ∧ y < 256 := ⟨_, rfl, (fs[k]'hks).toNat_lt⟩
            obtain ⟨z, hz⟩ : ∃ z : UInt8, (z.toNat : Int) = c := ⟨UInt8.ofNat c.toNat, by rw [UInt8.toNat_ofNat']; omega⟩
            subst hz
            have hbl : bl ⟨[z].toArray⟩ = [z.toNat] := rfl
            obtain ⟨f1, f2⟩ := frame_one hc hks ⟨[z].toArray⟩ z.toNat hbl
            rw [hD] at f1 f2
            simp only [hy] at f1 f2
            have hcv : ∀ W : World, (convert 34 9 (.slice (some ⟨W.heap.size, 0, none⟩) 1 1)).run Tryd.prog (W.alloc (.cells #[.int .u8 (z.toNat : Int)] 5)) = .ok (.string ⟨[z].toArray⟩) (W.alloc (.cells #[.int .u8 (z.toNat : Int)] 5)) := fun W => Part.to_text (CI.one Part.layB W z 5)
            have HCV := Lib.hid hcv
            obtain ⟨tx, htx⟩ : ∃ tx : ByteArray, tx = ⟨[z].toArray⟩ := ⟨_, rfl⟩
            rw [← htx] at f1 f2
            simp only [← htx] at HCV
            have FO := Lib.hid (fun W => frame_any fa (fb + (k : Int)) tx W)
            unfold val at FO
            obtain ⟨x, hx⟩ : ∃ x, z.toNat = x := ⟨_, rfl⟩
            have hxz : (z.toNat : Int) = (x : Int) := by rw [hx]
            simp only [hx] at f1 f2
            simp only [hxz] at HCV ⊢
            clear hcv hbl htx
            by_cases he : x = y
            · obtain ⟨g1, g2⟩ := f1 he
              have P3 := Lib.hid (fun W (H : Mux.Ends W g D z0) => put_any g D z0 ⟨fa, fb + (k : Int), tx⟩ W H 0 g1 D g2)
              rw [er_0] at P3
              unfold val at P3
              have y1 : ((y : Int) == (x : Int)) = true := by simp [he]
              have y2 : (V == V) = true := by simp
              subst he
              clear f1 f2 g1 g2 hok hc hs2 t1 t2 hD hV hik
              have x0 : wr.cell? ⟨gx, 0, none⟩ = some (.int .i64 fa) := HBX.out.2.1
              have x1 : wr.cell? ⟨gx, 1, none⟩ = some (.int .i64 fb) := HBX.out.2.2.1
              have x2 : wr.cell? ⟨gx, 2, none⟩ = some (.string fs) := HBX.out.2.2.2
              go_wp2_with fail
              refine (P1.out _ HE.out).mono ?_; rintro e w4 ⟨rfl, hE, hg1⟩
              replace HBX := Lib.hid (HBX.out.more hg1 HXG.out)
              replace HB := Lib.hid (gb HB.out hg1 HG.out)
              replace HE := Lib.hid hE
              clear hE hg1
              have x0 : w4.cell? ⟨gx, 0, none⟩ = some (.int .i64 fa) := HBX.out.2.1
              have x1 : w4.cell? ⟨gx, 1, none⟩ = some (.int .i64 fb) := HBX.out.2.2.1
              have x2 : w4.cell? ⟨gx, 2, none⟩ = some (.string fs) := HBX.out.2.2.2
              clear x1 x2
              go_wp2_with fail
              refine (IS.out _).mono ?_; rintro e w5 ⟨rfl, rfl⟩
              have x0 : w5.cell? ⟨gx, 0, none⟩ = some (.int .i64 fa) := HBX.out.2.1
              have x1 : w5.cell? ⟨gx, 1, none⟩ = some (.int .i64 fb) := HBX.out.2.2.1
              have x2 : w5.cell? ⟨gx, 2, none⟩ = some (.string fs) := HBX.out.2.2.2
              go_wp2_with fail
              refine (P2.out _ HE.out).mono ?_; rintro e w6 ⟨rfl, hE, hg1⟩
              replace HBX := Lib.hid (HBX.out.more hg1 HXG.out)
              replace HB := Lib.hid (gb HB.out hg1 HG.out)
              replace HE := Lib.hid hE
              clear hE hg1
              have x0 : w6.cell? ⟨gx, 0, none⟩ = some (.int .i64 fa) := HBX.out.2.1
              have x1 : w6.cell? ⟨gx, 1, none⟩ = some (.int .i64 fb) := HBX.out.2.2.1
              have x2 : w6.cell? ⟨gx, 2, none⟩ = some (.string fs) := HBX.out.2.2.2
              clear x1 x2
              go_wp2_with fail
              refine (W1.out _ HE.out).mono ?_; rintro e w7 ⟨rfl, hb⟩
              replace HBX := Lib.hid (HBX.out.below hb HBX.out.1)
              replace HE := Lib.hid (HE.out.below hb)
              replace HB := Lib.hid (bcall HB.out hb)
              clear hb
              have x0 : w7.cell? ⟨gx, 0, none⟩ = some (.int .i64 fa) := HBX.out.2.1
              have x1 : w7.cell? ⟨gx, 1, none⟩ = some (.int .i64 fb) := HBX.out.2.2.1
              have x2 : w7.cell? ⟨gx, 2, none⟩ = some (.string fs) := HBX.out.2.2.2
              clear x0 x1
              go_wp2_with fail
              refine (IK.out _).mono ?_; rintro e w8 ⟨rfl, rfl⟩
              have x0 : w8.cell? ⟨gx, 0, none⟩ = some (.int .i64 fa) := HBX.out.2.1
              have x1 : w8.cell? ⟨gx, 1, none⟩ = some (.int .i64 fb) := HBX.out.2.2.1
              have x2 : w8.cell? ⟨gx, 2, none⟩ = some (.string fs) := HBX.out.2.2.2
              clear x2
              have hcv := HCV.out w8
              go_wp2_with fail
              replace HBX := Lib.hid (HBX.out.below (balloc (brefl w8) (.cells #[.int .u8 (x : Int)] 5)) HBX.out.1)
              replace HE := Lib.hid (HE.out.alloc (.cells #[.int .u8 (x : Int)] 5))
              replace HB := Lib.hid (balloc HB.out (.cells #[.int .u8 (x : Int)] 5))
              clear hcv HCV
              refine (FO.out _).mono ?_; rintro e w9 ⟨rfl, hb⟩
              replace HBX := Lib.hid (HBX.out.below hb HBX.out.1)
              replace HE := Lib.hid (HE.out.below hb)
              replace HB := Lib.hid (bcall HB.out hb)
              clear hb
              go_wp2_with fail
              refine (P3.out _ HE.out).mono ?_; rintro e w10 ⟨rfl, hE, hg1⟩
              replace HBX := Lib.hid (HBX.out.more hg1 HXG.out)
              replace HB := Lib.hid (gb HB.out hg1 HG.out)
              replace HE := Lib.hid hE
              clear hE hg1
              have x0 : w10.cell? ⟨gx, 0, none⟩ = some (.int .i64 fa) := HBX.out.2.1
              have x1 : w10.cell? ⟨gx, 1, none⟩ = some (.int .i64 fb) := HBX.out.2.2.1
              have x2 : w10.cell? ⟨gx, 2, none⟩ = some (.string fs) := HBX.out.2.2.2
              go_wp2_with fail
              refine (W1.out _ HE.out).mono ?_; rintro e w11 ⟨rfl, hb⟩
              replace HBX := Lib.hid (HBX.out.below hb HBX.out.1)
              replace HE := Lib.hid (HE.out.below hb)
              replace HB := Lib.hid (bcall HB.out hb)
              clear hb
              go_wp2_with fail
              go_ret
              exact ⟨rfl, HB.out⟩
            · obtain ⟨g1, g2⟩ := f2 he
              have P3 := Lib.hid (fun W (H : Mux.Ends W g D z0) => put_any g D z0 ⟨fa, fb + (k : Int), tx⟩ W H 6 g1 D g2)
              have ES := Lib.hid (fun W (h : Handle W) => err_same 6 W h)
              rw [er_6] at P3 ES
              unfold val at P3
              have y1 : ((y : Int) == (x : Int)) = false := by rw [beq_eq_false_iff_ne]; omega
              have y2 : (V == V) = true := by simp
              have y3 : (y == x) = false := by rw [beq_eq_false_iff_ne]; omega
              clear f1 f2 g1 g2 hok hc hs2 t1 t2 hD hV hik he
              have x0 : wr.cell? ⟨gx, 0, none⟩ = some (.int .i64 fa) := HBX.out.2.1
              have x1 : wr.cell? ⟨gx, 1, none⟩ = some (.int .i64 fb) := HBX.out.2.2.1
              have x2 : wr.cell? ⟨gx, 2, none⟩ = some (.string fs) := HBX.out.2.2.2
              go_wp2_with fail
              refine (P1.out _ HE.out).mono ?_; rintro e w4 ⟨rfl, hE, hg1⟩
              replace HBX := Lib.hid (HBX.out.more hg1 HXG.out)
              replace HB := Lib.hid (gb HB.out hg1 HG.out)
              replace HE := Lib.hid hE
              clear hE hg1
              have x0 : w4.cell? ⟨gx, 0, none⟩ = some (.int .i64 fa) := HBX.out.2.1
              have x1 : w4.cell? ⟨gx, 1, none⟩ = some (.int .i64 fb) := HBX.out.2.2.1
              have x2 : w4.cell? ⟨gx, 2, none⟩ = some (.string fs) := HBX.out.2.2.2
              clear x1 x2
              go_wp2_with fail
              refine (IS.out _).mono ?_; rintro e w5 ⟨rfl, rfl⟩
              have x0 : w5.cell? ⟨gx, 0, none⟩ = some (.int .i64 fa) := HBX.out.2.1
              have x1 : w5.cell? ⟨gx, 1, none⟩ = some (.int .i64 fb) := HBX.out.2.2.1
              have x2 : w5.cell? ⟨gx, 2, none⟩ = some (.string fs) := HBX.out.2.2.2
              go_wp2_with fail
              refine (P2.out _ HE.out).mono ?_; rintro e w6 ⟨rfl, hE, hg1⟩
              replace HBX := Lib.hid (HBX.out.more hg1 HXG.out)
              replace HB := Lib.hid (gb HB.out hg1 HG.out)
              replace HE := Lib.hid hE
              clear hE hg1
              have x0 : w6.cell? ⟨gx, 0, none⟩ = some (.int .i64 fa) := HBX.out.2.1
              have x1 : w6.cell? ⟨gx, 1, none⟩ = some (.int .i64 fb) := HBX.out.2.2.1
              have x2 : w6.cell? ⟨gx, 2, none⟩ = some (.string fs) := HBX.out.2.2.2
              clear x1 x2
              go_wp2_with fail
              refine (W1.out _ HE.out).mono ?_; rintro e w7 ⟨rfl, hb⟩
              replace HBX := Lib.hid (HBX.out.below hb HBX.out.1)
              replace HE := Lib.hid (HE.out.below hb)
              replace HB := Lib.hid (bcall HB.out hb)
              clear hb
              have x0 : w7.cell? ⟨gx, 0, none⟩ = some (.int .i64 fa) := HBX.out.2.1
              have x1 : w7.cell? ⟨gx, 1, none⟩ = some (.int .i64 fb) := HBX.out.2.2.1
              have x2 : w7.cell? ⟨gx, 2, none⟩ = some (.string fs) := HBX.out.2.2.2
              clear x0 x1
              go_wp2_with fail
              refine (IK.out _).mono ?_; rintro e w8 ⟨rfl, rfl⟩
              have x0 : w8.cell? ⟨gx, 0, none⟩ = some (.int .i64 fa) := HBX.out.2.1
              have x1 : w8.cell? ⟨gx, 1, none⟩ = some (.int .i64 fb) := HBX.out.2.2.1
              have x2 : w8.cell? ⟨gx, 2, none⟩ = some (.string fs) := HBX.out.2.2.2
              clear x2
              have hcv := HCV.out w8
              go_wp2_with fail
              replace HBX := Lib.hid (HBX.out.below (balloc (brefl w8) (.cells #[.int .u8 (x : Int)] 5)) HBX.out.1)
              replace HE := Lib.hid (HE.out.alloc (.cells #[.int .u8 (x : Int)] 5))
              replace HB := Lib.hid (balloc HB.out (.cells #[.int .u8 (x : Int)] 5))
              clear hcv HCV
              refine (FO.out _).mono ?_; rintro e w9 ⟨rfl, hb⟩
              replace HBX := Lib.hid (HBX.out.below hb HBX.out.1)
              replace HE := Lib.hid (HE.out.below hb)
              replace HB := Lib.hid (bcall HB.out hb)
              clear hb
              go_wp2_with fail
              refine (P3.out _ HE.out).mono ?_; rintro e w10 ⟨rfl, hE, hg1⟩
              replace HBX := Lib.hid (HBX.out.more hg1 HXG.out)
              replace HB := Lib.hid (gb HB.out hg1 HG.out)
              replace HE := Lib.hid hE
              clear hE hg1
              have x0 : w10.cell? ⟨gx, 0, none⟩ = some (.int .i64 fa) := HBX.out.2.1
              have x1 : w10.cell? ⟨gx, 1, none⟩ = some (.int .i64 fb) := HBX.out.2.2.1
              have x2 : w10.cell? ⟨gx, 2, none⟩ = some (.string fs) := HBX.out.2.2.2
              clear x0 x1
              go_wp2_with fail
              refine (ES.out _ (hgw.out.below HB.out)).mono ?_; rintro e w11 ⟨rfl, hb⟩
              replace HBX := Lib.hid (HBX.out.below hb HBX.out.1)
              replace HE := Lib.hid (HE.out.below hb)
              replace HB := Lib.hid (bcall HB.out hb)
              clear hb
              have x0 : w11.cell? ⟨gx, 0, none⟩ = some (.int .i64 fa) := HBX.out.2.1
              have x1 : w11.cell? ⟨gx, 1, none⟩ = some (.int .i64 fb) := HBX.out.2.2.1
              have x2 : w11.cell? ⟨gx, 2, none⟩ = some (.string fs) := HBX.out.2.2.2
              clear x1 x2
              go_wp2_with fail
              refine (W1.out _ HE.out).mono ?_; rintro e w12 ⟨rfl, hb⟩
              replace HBX := Lib.hid (HBX.out.below hb HBX.out.1)
              replace HE := Lib.hid (HE.out.below hb)
              replace HB := Lib.hid (bcall HB.out hb)
              clear hb
              have x0 : w12.cell? ⟨gx, 0, none⟩ = some (.int .i64 fa) := HBX.out.2.1
              have x1 : w12.cell? ⟨gx, 1, none⟩ = some (.int .i64 fb) := HBX.out.2.2.1
              have x2 : w12.cell? ⟨gx, 2, none⟩ = some (.string fs) := HBX.out.2.2.2
              go_wp2_with fail
              refine (P2.out _ HE.out).mono ?_; rintro e w13 ⟨rfl, hE, hg1⟩
              replace HBX := Lib.hid (HBX.out.more hg1 HXG.out)
              replace HB := Lib.hid (gb HB.out hg1 HG.out)
              replace HE := Lib.hid hE
              clear hE hg1
              go_wp2_with fail
              go_ret
              exact ⟨rfl, HB.out⟩
          · have IK := Lib.hid (fun W => Ring.in_any i 0 ((n : Int) - 1) W false (in_false hik))
            clear hok hc hs2 t1 t2 hD hV hik
            have x0 : wr.cell? ⟨gx, 0, none⟩ = some (.int .i64 fa) := HBX.out.2.1
            have x1 : wr.cell? ⟨gx, 1, none⟩ = some (.int .i64 fb) := HBX.out.2.2.1
            have x2 : wr.cell? ⟨gx, 2, none⟩ = some (.string fs) := HBX.out.2.2.2
            go_wp2_with fail
            refine (P1.out _ HE.out).mono ?_; rintro e w4 ⟨rfl, hE, hg1⟩
            replace HBX := Lib.hid (HBX.out.more hg1 HXG.out)
            replace HB := Lib.hid (gb HB.out hg1 HG.out)
            replace HE := Lib.hid hE
            clear hE hg1
            have x0 : w4.cell? ⟨gx, 0, none⟩ = some (.int .i64 fa) := HBX.out.2.1
            have x1 : w4.cell? ⟨gx, 1, none⟩ = some (.int .i64 fb) := HBX.out.2.2.1
            have x2 : w4.cell? ⟨gx, 2, none⟩ = some (.string fs) := HBX.out.2.2.2
            clear x1 x2
            go_wp2_with fail
            refine (IS.out _).mono ?_; rintro e w5 ⟨rfl, rfl⟩
            have x0 : w5.cell? ⟨gx, 0, none⟩ = some (.int .i64 fa) := HBX.out.2.1
            have x1 : w5.cell? ⟨gx, 1, none⟩ = some (.int .i64 fb) := HBX.out.2.2.1
            have x2 : w5.cell? ⟨gx, 2, none⟩ = some (.string fs) := HBX.out.2.2.2
            go_wp2_with fail
            refine (P2.out _ HE.out).mono ?_; rintro e w6 ⟨rfl, hE, hg1⟩
            replace HBX := Lib.hid (HBX.out.more hg1 HXG.out)
            replace HB := Lib.hid (gb HB.out hg1 HG.out)
            replace HE := Lib.hid hE
            clear hE hg1
            have x0 : w6.cell? ⟨gx, 0, none⟩ = some (.int .i64 fa) := HBX.out.2.1
            have x1 : w6.cell? ⟨gx, 1, none⟩ = some (.int .i64 fb) := HBX.out.2.2.1
            have x2 : w6.cell? ⟨gx, 2, none⟩ = some (.string fs) := HBX.out.2.2.2
            clear x1 x2
            go_wp2_with fail
            refine (W1.out _ HE.out).mono ?_; rintro e w7 ⟨rfl, hb⟩
            replace HBX := Lib.hid (HBX.out.below hb HBX.out.1)
            replace HE := Lib.hid (HE.out.below hb)
            replace HB := Lib.hid (bcall HB.out hb)
            clear hb
            have x0 : w7.cell? ⟨gx, 0, none⟩ = some (.int .i64 fa) := HBX.out.2.1
            have x1 : w7.cell? ⟨gx, 1, none⟩ = some (.int .i64 fb) := HBX.out.2.2.1
            have x2 : w7.cell? ⟨gx, 2, none⟩ = some (.string fs) := HBX.out.2.2.2
            clear x0 x1
            go_wp2_with fail
            refine (IK.out _).mono ?_; rintro e w8 ⟨rfl, rfl⟩
            go_wp2_with fail
            go_ret
            exact ⟨rfl, HB.out⟩
        · obtain ⟨cc, hcc⟩ : ∃ cc, codeM d ⟨fa, fb, fs⟩ = cc := ⟨_, rfl⟩
          have P1 := Lib.hid (fun W (H : Mux.Ends W g d z0) => put_any g d z0 ⟨fa, fb, fs⟩ W H cc hcc _ rfl)
          generalize putM d ⟨fa, fb, fs⟩ = D at P1
          have hev : er cc = .iface 57 (.int .i64 cc) := by unfold er; rw [if_neg (by rw [← hcc]; exact hc)]
          rw [hev] at P1
          unfold val at P1
          clear hev hcc hc
          have x0 : wr.cell? ⟨gx, 0, none⟩ = some (.int .i64 fa) := HBX.out.2.1
          have x1 : wr.cell? ⟨gx, 1, none⟩ = some (.int .i64 fb) := HBX.out.2.2.1
          have x2 : wr.cell? ⟨gx, 2, none⟩ = some (.string fs) := HBX.out.2.2.2
          go_wp2_with fail
          refine (P1.out _ HE.out).mono ?_; rintro e w4 ⟨rfl, hE, hg1⟩
          replace HBX := Lib.hid (HBX.out.more hg1 HXG.out)
          replace HB := Lib.hid (gb HB.out hg1 HG.out)
          replace HE := Lib.hid hE
          clear hE hg1
          go_wp2_with fail
          go_ret
          exact ⟨rfl, HB.out⟩

theorem reads : Tryd.f3.params.toList.all (fun t => Tryd.prog.readableRec t && decide (t < Tryd.prog.types.size)) = true := by kernel_rfl
theorem et : Tryd.prog.globalNamed "errors.errorType" = some 0 := by kernel_rfl
theorem rt : (Tryd.prog.cutTypes.find? (·.1 == "internal/reflectlite.rtype")).map (·.2) = some 79 := by kernel_rfl
theorem oneRow : ((List.range Tryd.prog.types.size).filter fun t => Tryd.prog.rowNamed t [101, 114, 114, 111, 114]) = [29] := by kernel_rfl

theorem handle_of_laid {W : World} (h : laidMetH Tryd.prog Rows.muxClashRow.laid W) : Handle W := by
  have h' : laidMet Tryd.prog [] W ∧ handlesMet Tryd.prog Rows.muxClashRow.laid W := h
  obtain ⟨name, u, ty, e1, e2, e3, e4, e5⟩ := h'.2 _ (List.mem_singleton.2 rfl)
  have en : name = [101, 114, 114, 111, 114] := (Option.some.inj e1).symm
  subst en
  obtain rfl := Option.some.inj (rt.symm.trans e2)
  have hm : ty ∈ (List.range Tryd.prog.types.size).filter fun t => Tryd.prog.rowNamed t [101, 114, 114, 111, 114] := List.mem_filter.2 ⟨List.mem_range.2 e3, e4⟩
  rw [oneRow] at hm
  obtain rfl := List.mem_singleton.1 hm
  have hh : typeHandle Tryd.prog 29 = .pointer (some ⟨1, 29, none⟩) := by kernel_rfl
  rw [hh] at e5
  have e6 := World.var?_cell et e5 0
  unfold Handle
  simpa using e6

noncomputable def laidWorld (os : Os) : World :=
  { World.holding Tryd.prog os ⟨#[], #[], []⟩ with heap := (World.holding Tryd.prog os ⟨#[], #[], []⟩).heap.modify 0 fun
      | .cells _ t frozen => .cells #[.iface 79 (.agg #[.pointer (some ⟨1, 29, none⟩)])] t frozen
      | o => o }
theorem laid_met (os : Os) : laidMetH Tryd.prog Rows.muxClashRow.laid ((laidWorld os).forCall (fun _ _ => 0) ⟨#[], #[.slice none 0 0, .agg #[.int .i64 0, .int .i64 0, .string .empty], .int .i64 0, .int .u8 0], []⟩).memory :=
  laidMetH_of_parts (laidMet_nil _ _) (by kernel_rfl)
theorem reads_wit (os : Os) {H : Type} (enc : TypeId × Value → H) : ∃ places, DataW.whole enc Tryd.prog ((laidWorld os).forCall (fun _ _ => 0) ⟨#[], #[.slice none 0 0, .agg #[.int .i64 0, .int .i64 0, .string .empty], .int .i64 0, .int .u8 0], []⟩).memory Tryd.f3.params.toList Rows.muxClashSpec.vars false (#[.slice none 0 0, .agg #[.int .i64 0, .int .i64 0, .string .empty], .int .i64 0, .int .u8 0] : Array Value).toList 8 = some ([.nil, .agg [.lit (.int .i64 0), .lit (.int .i64 0), .lit (.string [])], .lit (.int .i64 0), .lit (.int .u8 0)], [], places) :=
  ⟨[], by kernel_rfl⟩

theorem contract (H : Type) (enc : TypeId × Value → H) (W : World) (base : Nat) (args : Array Value) (ds gs : List (DataW H)) (before : List MemPlace)
    (hval : ∀ (j : Nat) t v, Tryd.f3.params[j]? = some t → args[j]? = some v → Value.okWide Tryd.prog W .any base t v)
    (hW : DataW.Whole enc Tryd.prog Tryd.f3.params.toList Rows.muxClashSpec.vars false W args.toList ds gs before) (hL : laidMetH Tryd.prog Rows.muxClashRow.laid W) :
    Calls Tryd.prog 3 args W fun e W' => ∃ v, e = .returned v ∧ Rows.muxClashSpec.post enc Tryd.prog Tryd.f3 false true false false W args v W' := by
  have hW' := hW
  have hg := handle_of_laid hL
  obtain ⟨p, q, hA0, hV, rfl, hfz, hnd⟩ := hW
  have hA : DataW.TrodAll enc Tryd.prog W 0 (fun _ => true) true Tryd.f3.params.toList args.toList ds p := hA0
  have hlt := hA.lt
  rw [Tryd.params3] at hA hval
  obtain ⟨v0, vs0, d0, ds0, p0, q0, hargs, rfl, rfl, h0, r0⟩ := trodAll_cons hA
  obtain ⟨v1, vs1, d1, ds1, p1, q1, hvs1, rfl, rfl, h1, r1⟩ := trodAll_cons r0
  obtain ⟨v2, vs2, d2, ds2, p2, q2, hvs2, rfl, rfl, h2, r2⟩ := trodAll_cons r1
  obtain ⟨v3, vs3, d3, ds3, p3, q3, hvs3, rfl, rfl, h3, r3⟩ := trodAll_cons r2
  obtain ⟨hvsn, rfl, rfl⟩ := trodAll_nil r3
  simp only [hvsn, hvs3, hvs2, hvs1] at hargs
  obtain rfl : args = #[v0, v1, v2, v3] := by cases args; simp_all
  obtain ⟨p0a, cap0, l0, rfl, i0, f0, e0⟩ := Go.Proofs.YtcleanjacijfoaaDoor.Mux.open_frames (hval 0 22 v0 rfl rfl) h0 (fun x hx => hlt x (by simp [hx]))
  obtain ⟨x1, rfl, f1⟩ := Go.Proofs.YtcleanjacijfoaaDoor.Mux.open_frame (hval 1 24 v1 rfl rfl) h1
  obtain ⟨a2, rfl, rfl, rfl, w2⟩ := open_int Tryd.underlying3 (hval 2 3 v2 rfl rfl) h2
  have b2 := bounds_int w2
  obtain ⟨a3, rfl, rfl, rfl, w3⟩ := open_int Tryd.underlying5 (hval 3 5 v3 rfl rfl) h3
  have b3 : 0 ≤ a3 ∧ a3 ≤ 255 := by have := w3; simp [Lit.wf, IntKind.min, IntKind.max, IntKind.signed, IntKind.bits] at this; omega
  obtain ⟨rfl, rfl⟩ := trodVars_none hV
  clear hA0
  exact law_post 4 laid reads rfl Tryd.underlying4 rfl hW' ⟨rfl, rfl, rfl⟩ (law_any p0a cap0 l0 x1 a2 a3 W hg i0 b3)

set_option maxRecDepth 100000 in
theorem lifted (os : Os) (started : os.Started) (H : Type) (enc : TypeId × Value → H) (F : Stop.Interp) :
    ReturnsInHanded {} Tryd.checked os 3 .any ((OpenSpec.ofChange Rows.muxClashSpec).preRow enc Tryd.prog Tryd.f3 Rows.muxClashRow.domain false Rows.muxClashRow.laid) (((OpenSpec.ofChange Rows.muxClashSpec).at F).post enc Tryd.prog Tryd.f3 false true false false) := by
  obtain ⟨places, hx⟩ := reads_wit os enc
  refine returnsInHanded_of_row (C := Tryd.checked) (s := (OpenSpec.ofChange Rows.muxClashSpec)) own started (by kernel_rfl) Tryd.func3
    (witness_row_at (enc := enc) (C := Tryd.checked) false (laidWorld os) #[.slice none 0 0, .agg #[.int .i64 0, .int .i64 0, .string .empty], .int .i64 0, .int .u8 0] rfl (by kernel_rfl) (by kernel_rfl) (by kernel_rfl)
      (OpenSpec.preRow_of_cond 8 hx (by kernel_rfl) (fun k hk => by cases hk) (by kernel_rfl) (laid_met os))) ?_
  intro W base args ds gs before hval hW _ hcond _ hL _ _
  exact contract H enc W base args ds gs before hval hW hL

theorem said : Rows.MuxClashSaid :=
  OpenClaim.holds_of_cond 3 Tryd.f3 rfl rfl rfl rfl rfl rfl rfl ⟨rfl, rfl, rfl, rfl, rfl⟩ rfl rfl rfl rfl rfl (by kernel_rfl) Tryd.func3 (by kernel_rfl)
    (of_decide_eq_true (by kernel_rfl)) (by unfold Func.isWrapper; first | (rw [if_pos (by decide +kernel)]; kernel_rfl) | (rw [if_neg (by decide +kernel)]; exact ⟨rfl, rfl⟩))
    (fun os started H enc _ F => by rw [OpenClaim.pre_eq_preRow]; exact lifted os started H enc F)

theorem plain (f : FuncId) (fn : Func) (hf : Tryd.pinned.checked.prog.funcNamed Rows.muxClashRow.func = some f) (hfn : Tryd.pinned.checked.prog.funcs[f]? = some fn) :
    true = Tryd.pinned.checked.prog.looks [] ∧ ∀ (j : Nat) t, fn.params[j]? = some t → Tryd.pinned.checked.prog.wantsStandIn t = false := by
  obtain rfl : f = 3 := Option.some.inj ((show Tryd.prog.funcNamed Rows.muxClashRow.func = some 3 by kernel_rfl).symm.trans hf) |>.symm
  obtain rfl : fn = Tryd.f3 := (Option.some.inj (Tryd.func3.symm.trans hfn)).symm
  refine ⟨by kernel_rfl, fun j t ht => ?_⟩
  have hall : Tryd.f3.params.toList.all (fun t => !Tryd.prog.wantsStandIn t) = true := by kernel_rfl
  have hm : t ∈ Tryd.f3.params.toList := by simpa using Array.mem_of_getElem? ht
  have := List.all_eq_true.1 hall t hm
  show Tryd.prog.wantsStandIn t = false
  simpa using this

theorem proved : Rows.MuxClashCardSaid :=
  Claim7.holds_tied_plain_at .later [] _ _ _ _ said (fun _ h => by cases h) (by kernel_rfl) (fun _ h => by cases h) muxClash_row_tie rfl ⟨rfl, rfl⟩ (by kernel_rfl) rfl plain (by kernel_rfl)
end Go.Proofs.YtcleanjacijfoaaDoor.MuxClashL
