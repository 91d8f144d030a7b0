/- The program's functions of prefixes return what the document specifies: the law returns true for every input. No condition beyond what the card itself lists (the variable errors.errorType). -/
import Derived.Test.YtfkfffcbhjmekaaDoorCidrRefF
import Derived.Test.YtfkfffcbhjmekaaDoorAs
import Derived.Test.YtfkfffcbhjmekaaDoorCards
import Derived.Test.YtfkfffcbhjmekaaDoorTie
import Derived.Deep.DeepHandedRow
import Derived.Lib.LaidTab
import Derived.LaidHandle
import Derived.SevenTiedAt

namespace Go.Proofs.YtfkfffcbhjmekaaDoor.cidrSaysP
open Go.ChangeShapes Go.WideShapes Go.ChangeAt Go.RowKit
open Go.Proofs.YtfkfffcbhjmekaaDoor.Kit Go.Proofs.YtfkfffcbhjmekaaDoor.App Go.Proofs.YtfkfffcbhjmekaaDoor.Cells Go.Proofs.YtfkfffcbhjmekaaDoor.Cidr Go.Proofs.YtfkfffcbhjmekaaDoor.CidrMath Go.Proofs.YtfkfffcbhjmekaaDoor.As
set_option linter.unusedVariables false
set_option maxRecDepth 20000

theorem in_any (n a b : Int) (w : World) (R : Bool) (hR : R = true ↔ a ≤ n ∧ n ≤ b) : Calls Tryd.prog 7 #[.int .i64 n, .int .i64 a, .int .i64 b] w fun e w' => e = .returned (.bool R) ∧ w' = w := by
  have hR' : R = (decide (a ≤ n) && decide (n ≤ b)) := by rw [Bool.eq_iff_iff, hR, Bool.and_eq_true, decide_eq_true_iff, decide_eq_true_iff]
  subst hR'
  clear hR
  by_cases h1 : a ≤ n
  · have t1 : decide (a ≤ n) = true := decide_eq_true h1
    go_enter Tryd.func7, Tryd.ntmps7
    go_wp2_with fail
    go_ret
    exact ⟨by rw [t1]; simp, rfl⟩
  · have t1 : decide (a ≤ n) = false := decide_eq_false h1
    go_enter Tryd.func7, Tryd.ntmps7
    go_wp2_with fail
    go_ret
    exact ⟨rfl, rfl⟩
theorem fewest_all (p : Option Addr) (cap n : Nat) (l : List Pfx) (w : World) (hn : n = l.length) (hc : CI lay w p cap l) (M : List Pfx) (hM : M = if wrong l = 0 then few0 l else []) (c : Int) (hcw : c = wrong l) :
    Calls Tryd.prog 11 #[.slice p n cap] w fun e w' => ∃ v, e = .returned (.tuple #[v, er c]) ∧ OC lay 23 w' w.heap.size v M ∧ Below w.heap.size w w' := by
  by_cases h : wrong l = 0
  · rw [if_pos h] at hM
    subst hM
    have hc0 : c = 0 := by rw [hcw, h]
    subst hc0
    exact fewest_good p cap n l w hn hc h
  · rw [if_neg h] at hM
    subst hM
    have h0 : c ≠ 0 := by rw [hcw]; exact h
    rw [er_ne h0]
    exact (fewest_bad p cap n l w hn hc c hcw h0).mono fun e w' ⟨h1, h2⟩ => ⟨_, h1, OC.nil _ _ _ _, h2⟩
theorem many_all (p : Option Addr) (cap n : Nat) (l : List Pfx) (w : World) (hn : n = l.length) (hc : CI lay w p cap l) (M : List Pfx) (hM : M = if wrong l = 0 then few0 l else []) (c : Int) (hcw : c = wrong l) :
    Calls Tryd.prog 14 #[.slice p n cap] w fun e w' => e = .returned (.tuple #[.int .i64 (total M : Nat), er c]) ∧ Below w.heap.size w w' := by
  by_cases h : wrong l = 0
  · rw [if_pos h] at hM
    subst hM
    have hc0 : c = 0 := by rw [hcw, h]
    subst hc0
    exact many_good p cap n l w hn hc h
  · rw [if_neg h] at hM
    subst hM
    have h0 : c ≠ 0 := by rw [hcw]; exact h
    rw [er_ne h0]
    exact many_bad p cap n l w hn hc c hcw h0
theorem err_same (c : Int) (w : World) (hg : Handle w) : Calls Tryd.prog 5 #[er c, .int .i64 c] w fun e w' => e = .returned (.bool true) ∧ Below w.heap.size w w' :=
  (error_any c c w hg).mono fun e w' ⟨h1, h2⟩ => ⟨by rw [h1]; simp, h2⟩
theorem want_facts (l : List Pfx) (M : List Pfx) (hM : M = if wrong l = 0 then few0 l else []) : (∀ x ∈ M, CidrMath.Good x) ∧ total M ≤ 65536 ∧ M.length ≤ 32 := by
  by_cases h : wrong l = 0
  · rw [if_pos h] at hM
    have h2 := (wrong_zero l).1 h
    rw [hM]
    exact ⟨few0_good l, total_few l h2.2, Nat.le_trans (few0_len l h2.2) h2.1⟩
  · rw [if_neg h] at hM
    rw [hM]
    exact ⟨fun x hx => by simp at hx, by simp [total], by simp⟩
abbrev T0 (x : Pfx) (w : World) : World := w.alloc (.cells #[.int .i64 x.adr, .int .i64 x.len] 23)
abbrev Law (x : Pfx) (a : Int) (p : Option Addr) (cap : Nat) (l : List Pfx) (w : World) : Prop := Calls Tryd.prog 3 #[.agg #[.int .i64 x.adr, .int .i64 x.len], .int .i64 a, .slice p l.length cap] w fun e w' => e = .returned (.bool true) ∧ Below w.heap.size w w'

set_option maxHeartbeats 8000000 in
theorem law_a (x : Pfx) (a : Int) (p : Option Addr) (cap : Nat) (l : List Pfx) (w : World) (hg : Handle w) (hc : CI lay w p cap l) (hx : code x ≠ 0) : Law x a p cap l w := by
  have PX := Lib.hid (fun W => rprefix_any x W _ rfl)
  have CK := Lib.hid (fun W => check_any x W _ rfl)
  unfold val at PX CK
  have HB := Lib.hid (fun W (hb : Below (T0 x w).heap.size (T0 x w) W) => ((Box.new w x 23).below hb (by simp)).2)
  have HGd := Lib.hid (fun W (hb : Below (T0 x w).heap.size (T0 x w) W) => hg.below (bcall (balloc (brefl w) _) hb))
  have HCl := Lib.hid (fun W (hb : Below (T0 x w).heap.size (T0 x w) W) => hc.below (bcall (balloc (brefl w) _) hb))
  have ES := Lib.hid err_same
  obtain ⟨M, hM⟩ : ∃ M, M = if wrong l = 0 then few0 l else [] := ⟨_, rfl⟩
  obtain ⟨c, hcw⟩ : ∃ c, c = wrong l := ⟨_, rfl⟩
  obtain ⟨n, hn⟩ : ∃ n, n = l.length := ⟨_, rfl⟩
  have RF := Lib.hid (fun W (h : CI lay W p cap l) => rfewest_any p cap n l W hn h M hM c hcw)
  have FF := Lib.hid (fun W (h : CI lay W p cap l) => fewest_all p cap n l W hn h M hM c hcw)
  have MF := Lib.hid (fun W (h : CI lay W p cap l) => many_all p cap n l W hn h M hM c hcw)
  obtain ⟨hgM, hT, hr32⟩ := want_facts l M hM
  have HGM := Lib.hid hgM
  have TL := Lib.hid (total_le M)
  obtain ⟨r, hr⟩ : ∃ r, M.length = r := ⟨_, rfl⟩
  rw [hr] at hr32
  have HR := Lib.hid hr
  have EQ := Lib.hid (fun q q2 c c2 W (h1 : CI lay W q c M) (h2 : CI lay W q2 c2 M) => prefixes_any q q2 c c2 r r M M W hr.symm hr.symm h1 h2 true (by simp))
  obtain ⟨S, hS⟩ : ∃ S, total M = S := ⟨_, rfl⟩
  rw [hS] at MF hT
  have HS := Lib.hid hS
  unfold Law
  rw [← hn]
  have EC := Lib.hid (fun W hg => err_same c W hg)
  obtain ⟨VC, hVC⟩ : ∃ V, er c = V := ⟨_, rfl⟩
  rw [hVC] at FF MF EC
  have HA := Lib.hid (fun W => has_bad x a W (code x) (by unfold code2; rw [if_neg hx]) hx)
  unfold val at HA
  rw [← er_ne hx] at HA
  have E1 := Lib.hid (fun W hg => err_same (code x) W hg)
  have E2 := Lib.hid (fun W hg => err_same (code x) W hg)
  have t1 : (code x == 0) = false := by simpa using hx
  have t1' : decide (code x = 0) = false := decide_eq_false hx
  obtain ⟨V, hV⟩ : ∃ V, er (code x) = V := ⟨_, rfl⟩
  rw [hV] at HA E1 E2 CK
  generalize code x = cx at *
  clear hV
  clear hg hc hM hcw hn hgM hr hS hVC
  go_enter Tryd.func3, Tryd.ntmps3
  go_wp2_with fail
  refine (PX.out _).mono ?_; rintro e w1 ⟨rfl, hg1⟩
  have B1 : Below (T0 x w).heap.size (T0 x w) w1 := hg1.below
  have b1 := HB.out w1 B1
  have b10 := b1.1
  have b11 := b1.2
  clear hg1 b1
  go_wp2_with fail
  refine (CK.out _).mono ?_; rintro e w2 ⟨rfl, hg2⟩
  have B2 : Below (T0 x w).heap.size (T0 x w) w2 := below_gr B1 B1.size hg2
  clear hg2 b10 b11 B1
  go_wp2_with fail
  refine (E1.out _ (HGd.out _ B2)).mono ?_; rintro e w3 ⟨rfl, hb3⟩
  have B3 : Below (T0 x w).heap.size (T0 x w) w3 := B2.trans (hb3.mono B2.size)
  have b3 := HB.out w3 B3
  have b30 := b3.1
  have b31 := b3.2
  clear hb3 B2 b3
  go_wp2_with fail
  refine (HA.out _).mono ?_; rintro e w4 ⟨rfl, hg4⟩
  have B4 : Below (T0 x w).heap.size (T0 x w) w4 := below_gr B3 B3.size hg4
  clear hg4 b30 b31 B3
  go_wp2_with fail
  refine (E2.out _ (HGd.out _ B4)).mono ?_; rintro e w5 ⟨rfl, hb5⟩
  have B5 : Below (T0 x w).heap.size (T0 x w) w5 := B4.trans (hb5.mono B4.size)
  have b5 := HB.out w5 B5
  have b50 := b5.1
  have b51 := b5.2
  clear hb5 B4 b5
  have B6 := B5
  clear b50 b51 B5
  go_wp2_with fail
  refine (RF.out _ (HCl.out _ B6)).mono ?_; rintro e w7 ⟨v, rfl, hown, hb7⟩
  have B7 : Below (T0 x w).heap.size (T0 x w) w7 := B6.trans (hb7.mono B6.size)
  obtain ⟨q, cq, rfl, hCq⟩ := hown.form
  rw [HR.out]
  have HQ := Lib.hid hCq
  have hs7 := B7.size
  clear hown hb7 B6 hCq
  go_wp2_with fail
  refine (FF.out _ (HCl.out _ B7)).mono ?_; rintro e w8 ⟨v, rfl, hown, hb8⟩
  have B8 : Below (T0 x w).heap.size (T0 x w) w8 := B7.trans (hb8.mono hs7)
  obtain ⟨q2, cq2, rfl, hCq2⟩ := hown.form
  rw [HR.out]
  have HQ2 := Lib.hid hCq2
  have HQ8 := Lib.hid (HQ.out.below hb8)
  clear hown hb8 hCq2
  go_wp2_with fail
  refine (EC.out _ (HGd.out _ B8)).mono ?_; rintro e w9 ⟨rfl, hb9⟩
  have B9 : Below (T0 x w).heap.size (T0 x w) w9 := B8.trans (hb9.mono B8.size)
  have HQ9 := Lib.hid (HQ8.out.below hb9)
  have HQ29 := Lib.hid (HQ2.out.below hb9)
  clear hb9 HQ HQ2 HQ8 B7 B8
  go_wp2_with fail
  refine (EQ.out _ _ _ _ _ HQ29.out HQ9.out).mono ?_; rintro e wa ⟨rfl, u, rfl⟩
  have BA : Below (T0 x w).heap.size (T0 x w) (w9.drewN u) := below_drewN B9 u
  have HQA := Lib.hid (HQ9.out.below (below_drewN (brefl _) u))
  have hsA := BA.size
  clear B9 HQ9 HQ29
  generalize w9.drewN u = wb at BA HQA hsA ⊢
  go_wp2_with fail
  go_loopw [15, 16] (fun sv iv wr => ∃ k t : Nat, sv = .int .i64 t ∧ iv = .int .i64 k ∧ k ≤ r ∧ t ≤ 65536 ∧ Hid (t = total (M.take k)) ∧ wr = wb) (fun _ i _ => r - (intOf i).toNat)
  case atStart => exact ⟨0, 0, by rfl, by rfl, Nat.zero_le _, by omega, by simp [Hid, total], rfl⟩
  case round =>
    obtain ⟨k, t, rfl, rfl, hk, ht, H, rfl⟩ := hrel
    by_cases hlt : k < r
    · have hkl : k < M.length := by rw [HR.out]; exact hlt
      obtain ⟨b, off, rfl, hbw, hcell⟩ := HQA.out.2.2 (by omega)
      obtain ⟨y, hy⟩ : ∃ y, M[k]? = some y := ⟨_, List.getElem?_eq_getElem hkl⟩
      have y1 : wr.cell? ⟨b, off + k * 2 + 1, none⟩ = some (.int .i64 y.len) := hcell k y hy 1 _ rfl
      have hgy := HGM.out y (List.mem_of_getElem? hy)
      obtain ⟨d, j, hj, hyb, hyb2⟩ := good_mem hgy
      have hyl : y.len = 16 - (j : Int) := by rw [hyb]; rfl
      have hz : siz y = 2 ^ j := by rw [hyb]; exact siz_blk _ j
      have hs := total_take M k y hy
      have hle := TL.out (k + 1)
      rw [hs, ← H.out, HS.out] at hle
      rw [← H.out] at hs
      obtain ⟨z, hzz⟩ : ∃ z, siz y = z := ⟨_, rfl⟩
      rw [hzz] at hs hle
      have PW := Lib.hid (fun W => power_any j hj W (16 - y.len) (by omega) z (by rw [← hzz, hz]))
      have HSs := Lib.hid hs
      have i0 : (0 : Int) ≤ (k : Int) := by omega
      have i1 : (k : Int) < (r : Int) := by omega
      have hwk : IntKind.i64.wrap (16 - y.len) = 16 - y.len := by rw [IntKind.wrap_i64]; omega
      have hq : IntKind.i64.wrap ((t : Int) + (z : Int)) = (t : Int) + (z : Int) := by rw [IntKind.wrap_i64]; omega
      clear hcell hy hkl hgy hyb hyb2 hyl hz hs hzz
      go_wp2_with fail
      refine (PW.out _).mono ?_; rintro e w4 ⟨rfl, rfl⟩
      go_wp2_with fail
      go_roundw
      case rel => exact ⟨k + 1, t + z, by first | rfl | go_num, by first | rfl | go_num, by omega, by omega, HSs.out.symm, by first | trivial | rfl⟩
      case measure => simp [intOf]; omega
    · obtain rfl : k = r := by omega
      have ht' : t = S := by rw [H.out, List.take_of_length_le (by rw [HR.out]; exact Nat.le_refl _), HS.out]
      subst ht'
      clear H
      go_wp2_with fail
      refine (MF.out _ (HCl.out _ BA)).mono ?_; rintro e wc ⟨rfl, hbc⟩
      have BC : Below (T0 x w).heap.size (T0 x w) wc := BA.trans (hbc.mono hsA)
      clear hbc
      go_wp2_with fail
      refine (EC.out _ (HGd.out _ BC)).mono ?_; rintro e wd ⟨rfl, hbd⟩
      have hBE := bcall (balloc (brefl w) _) (BC.trans (hbd.mono BC.size))
      go_wp2_with fail
      go_ret
      exact ⟨rfl, hBE⟩

set_option maxHeartbeats 8000000 in
theorem law_b (x : Pfx) (a : Int) (p : Option Addr) (cap : Nat) (l : List Pfx) (w : World) (hg : Handle w) (hc : CI lay w p cap l) (hx : code x = 0) (ha : ¬ (0 ≤ a ∧ a ≤ 65535)) : Law x a p cap l w := by
  have PX := Lib.hid (fun W => rprefix_any x W _ rfl)
  have CK := Lib.hid (fun W => check_any x W _ rfl)
  unfold val at PX CK
  have HB := Lib.hid (fun W (hb : Below (T0 x w).heap.size (T0 x w) W) => ((Box.new w x 23).below hb (by simp)).2)
  have HGd := Lib.hid (fun W (hb : Below (T0 x w).heap.size (T0 x w) W) => hg.below (bcall (balloc (brefl w) _) hb))
  have HCl := Lib.hid (fun W (hb : Below (T0 x w).heap.size (T0 x w) W) => hc.below (bcall (balloc (brefl w) _) hb))
  have ES := Lib.hid err_same
  obtain ⟨M, hM⟩ : ∃ M, M = if wrong l = 0 then few0 l else [] := ⟨_, rfl⟩
  obtain ⟨c, hcw⟩ : ∃ c, c = wrong l := ⟨_, rfl⟩
  obtain ⟨n, hn⟩ : ∃ n, n = l.length := ⟨_, rfl⟩
  have RF := Lib.hid (fun W (h : CI lay W p cap l) => rfewest_any p cap n l W hn h M hM c hcw)
  have FF := Lib.hid (fun W (h : CI lay W p cap l) => fewest_all p cap n l W hn h M hM c hcw)
  have MF := Lib.hid (fun W (h : CI lay W p cap l) => many_all p cap n l W hn h M hM c hcw)
  obtain ⟨hgM, hT, hr32⟩ := want_facts l M hM
  have HGM := Lib.hid hgM
  have TL := Lib.hid (total_le M)
  obtain ⟨r, hr⟩ : ∃ r, M.length = r := ⟨_, rfl⟩
  rw [hr] at hr32
  have HR := Lib.hid hr
  have EQ := Lib.hid (fun q q2 c c2 W (h1 : CI lay W q c M) (h2 : CI lay W q2 c2 M) => prefixes_any q q2 c c2 r r M M W hr.symm hr.symm h1 h2 true (by simp))
  obtain ⟨S, hS⟩ : ∃ S, total M = S := ⟨_, rfl⟩
  rw [hS] at MF hT
  have HS := Lib.hid hS
  unfold Law
  rw [← hn]
  have EC := Lib.hid (fun W hg => err_same c W hg)
  obtain ⟨VC, hVC⟩ : ∃ V, er c = V := ⟨_, rfl⟩
  rw [hVC] at FF MF EC
  have HA := Lib.hid (fun W => has_bad x a W 1 (by unfold code2; rw [if_pos hx, if_neg ha]) (by decide))
  unfold val at HA
  rw [hx, er_0] at CK
  rw [hx] at PX
  have E1 := Lib.hid (fun W hg => (show Calls Tryd.prog 5 #[.nilIface, .int .i64 0] W fun e w' => e = .returned (.bool true) ∧ Below W.heap.size W w' from err_same 0 W hg))
  have E2 := Lib.hid (fun W hg => (show Calls Tryd.prog 5 #[.iface 43 (.int .i64 1), .int .i64 1] W fun e w' => e = .returned (.bool true) ∧ Below W.heap.size W w' from err_same 1 W hg))
  have IN := Lib.hid (fun W => in_any a 0 65535 W false ⟨fun h => by simp at h, fun h => absurd h ha⟩)
  clear hx ha
  clear hg hc hM hcw hn hgM hr hS hVC
  go_enter Tryd.func3, Tryd.ntmps3
  go_wp2_with fail
  refine (PX.out _).mono ?_; rintro e w1 ⟨rfl, hg1⟩
  have B1 : Below (T0 x w).heap.size (T0 x w) w1 := hg1.below
  have b1 := HB.out w1 B1
  have b10 := b1.1
  have b11 := b1.2
  clear hg1 b1
  go_wp2_with fail
  refine (CK.out _).mono ?_; rintro e w2 ⟨rfl, hg2⟩
  have B2 : Below (T0 x w).heap.size (T0 x w) w2 := below_gr B1 B1.size hg2
  clear hg2 b10 b11 B1
  go_wp2_with fail
  refine (E1.out _ (HGd.out _ B2)).mono ?_; rintro e w3 ⟨rfl, hb3⟩
  have B3 : Below (T0 x w).heap.size (T0 x w) w3 := B2.trans (hb3.mono B2.size)
  have b3 := HB.out w3 B3
  have b30 := b3.1
  have b31 := b3.2
  clear hb3 B2 b3
  go_wp2_with fail
  refine (IN.out _).mono ?_; rintro e w3 ⟨rfl, rfl⟩
  go_wp2_with fail
  refine (HA.out _).mono ?_; rintro e w4 ⟨rfl, hg4⟩
  have B4 : Below (T0 x w).heap.size (T0 x w) w4 := below_gr B3 B3.size hg4
  clear hg4 b30 b31 B3
  go_wp2_with fail
  refine (E2.out _ (HGd.out _ B4)).mono ?_; rintro e w5 ⟨rfl, hb5⟩
  have B5 : Below (T0 x w).heap.size (T0 x w) w5 := B4.trans (hb5.mono B4.size)
  have b5 := HB.out w5 B5
  have b50 := b5.1
  have b51 := b5.2
  clear hb5 B4 b5
  have B6 := B5
  clear b50 b51 B5
  go_wp2_with fail
  refine (RF.out _ (HCl.out _ B6)).mono ?_; rintro e w7 ⟨v, rfl, hown, hb7⟩
  have B7 : Below (T0 x w).heap.size (T0 x w) w7 := B6.trans (hb7.mono B6.size)
  obtain ⟨q, cq, rfl, hCq⟩ := hown.form
  rw [HR.out]
  have HQ := Lib.hid hCq
  have hs7 := B7.size
  clear hown hb7 B6 hCq
  go_wp2_with fail
  refine (FF.out _ (HCl.out _ B7)).mono ?_; rintro e w8 ⟨v, rfl, hown, hb8⟩
  have B8 : Below (T0 x w).heap.size (T0 x w) w8 := B7.trans (hb8.mono hs7)
  obtain ⟨q2, cq2, rfl, hCq2⟩ := hown.form
  rw [HR.out]
  have HQ2 := Lib.hid hCq2
  have HQ8 := Lib.hid (HQ.out.below hb8)
  clear hown hb8 hCq2
  go_wp2_with fail
  refine (EC.out _ (HGd.out _ B8)).mono ?_; rintro e w9 ⟨rfl, hb9⟩
  have B9 : Below (T0 x w).heap.size (T0 x w) w9 := B8.trans (hb9.mono B8.size)
  have HQ9 := Lib.hid (HQ8.out.below hb9)
  have HQ29 := Lib.hid (HQ2.out.below hb9)
  clear hb9 HQ HQ2 HQ8 B7 B8
  go_wp2_with fail
  refine (EQ.out _ _ _ _ _ HQ29.out HQ9.out).mono ?_; rintro e wa ⟨rfl, u, rfl⟩
  have BA : Below (T0 x w).heap.size (T0 x w) (w9.drewN u) := below_drewN B9 u
  have HQA := Lib.hid (HQ9.out.below (below_drewN (brefl _) u))
  have hsA := BA.size
  clear B9 HQ9 HQ29
  generalize w9.drewN u = wb at BA HQA hsA ⊢
  go_wp2_with fail
  go_loopw [15, 16] (fun sv iv wr => ∃ k t : Nat, sv = .int .i64 t ∧ iv = .int .i64 k ∧ k ≤ r ∧ t ≤ 65536 ∧ Hid (t = total (M.take k)) ∧ wr = wb) (fun _ i _ => r - (intOf i).toNat)
  case atStart => exact ⟨0, 0, by rfl, by rfl, Nat.zero_le _, by omega, by simp [Hid, total], rfl⟩
  case round =>
    obtain ⟨k, t, rfl, rfl, hk, ht, H, rfl⟩ := hrel
    by_cases hlt : k < r
    · have hkl : k < M.length := by rw [HR.out]; exact hlt
      obtain ⟨b, off, rfl, hbw, hcell⟩ := HQA.out.2.2 (by omega)
      obtain ⟨y, hy⟩ : ∃ y, M[k]? = some y := ⟨_, List.getElem?_eq_getElem hkl⟩
      have y1 : wr.cell? ⟨b, off + k * 2 + 1, none⟩ = some (.int .i64 y.len) := hcell k y hy 1 _ rfl
      have hgy := HGM.out y (List.mem_of_getElem? hy)
      obtain ⟨d, j, hj, hyb, hyb2⟩ := good_mem hgy
      have hyl : y.len = 16 - (j : Int) := by rw [hyb]; rfl
      have hz : siz y = 2 ^ j := by rw [hyb]; exact siz_blk _ j
      have hs := total_take M k y hy
      have hle := TL.out (k + 1)
      rw [hs, ← H.out, HS.out] at hle
      rw [← H.out] at hs
      obtain ⟨z, hzz⟩ : ∃ z, siz y = z := ⟨_, rfl⟩
      rw [hzz] at hs hle
      have PW := Lib.hid (fun W => power_any j hj W (16 - y.len) (by omega) z (by rw [← hzz, hz]))
      have HSs := Lib.hid hs
      have i0 : (0 : Int) ≤ (k : Int) := by omega
      have i1 : (k : Int) < (r : Int) := by omega
      have hwk : IntKind.i64.wrap (16 - y.len) = 16 - y.len := by rw [IntKind.wrap_i64]; omega
      have hq : IntKind.i64.wrap ((t : Int) + (z : Int)) = (t : Int) + (z : Int) := by rw [IntKind.wrap_i64]; omega
      clear hcell hy hkl hgy hyb hyb2 hyl hz hs hzz
      go_wp2_with fail
      refine (PW.out _).mono ?_; rintro e w4 ⟨rfl, rfl⟩
      go_wp2_with fail
      go_roundw
      case rel => exact ⟨k + 1, t + z, by first | rfl | go_num, by first | rfl | go_num, by omega, by omega, HSs.out.symm, by first | trivial | rfl⟩
      case measure => simp [intOf]; omega
    · obtain rfl : k = r := by omega
      have ht' : t = S := by rw [H.out, List.take_of_length_le (by rw [HR.out]; exact Nat.le_refl _), HS.out]
      subst ht'
      clear H
      go_wp2_with fail
      refine (MF.out _ (HCl.out _ BA)).mono ?_; rintro e wc ⟨rfl, hbc⟩
      have BC : Below (T0 x w).heap.size (T0 x w) wc := BA.trans (hbc.mono hsA)
      clear hbc
      go_wp2_with fail
      refine (EC.out _ (HGd.out _ BC)).mono ?_; rintro e wd ⟨rfl, hbd⟩
      have hBE := bcall (balloc (brefl w) _) (BC.trans (hbd.mono BC.size))
      go_wp2_with fail
      go_ret
      exact ⟨rfl, hBE⟩

set_option maxHeartbeats 8000000 in
theorem law_c (x : Pfx) (a : Int) (p : Option Addr) (cap : Nat) (l : List Pfx) (w : World) (hg : Handle w) (hc : CI lay w p cap l) (hx : code x = 0) (ha : 0 ≤ a ∧ a ≤ 65535) : Law x a p cap l w := by
  have PX := Lib.hid (fun W => rprefix_any x W _ rfl)
  have CK := Lib.hid (fun W => check_any x W _ rfl)
  unfold val at PX CK
  have HB := Lib.hid (fun W (hb : Below (T0 x w).heap.size (T0 x w) W) => ((Box.new w x 23).below hb (by simp)).2)
  have HGd := Lib.hid (fun W (hb : Below (T0 x w).heap.size (T0 x w) W) => hg.below (bcall (balloc (brefl w) _) hb))
  have HCl := Lib.hid (fun W (hb : Below (T0 x w).heap.size (T0 x w) W) => hc.below (bcall (balloc (brefl w) _) hb))
  have ES := Lib.hid err_same
  obtain ⟨M, hM⟩ : ∃ M, M = if wrong l = 0 then few0 l else [] := ⟨_, rfl⟩
  obtain ⟨c, hcw⟩ : ∃ c, c = wrong l := ⟨_, rfl⟩
  obtain ⟨n, hn⟩ : ∃ n, n = l.length := ⟨_, rfl⟩
  have RF := Lib.hid (fun W (h : CI lay W p cap l) => rfewest_any p cap n l W hn h M hM c hcw)
  have FF := Lib.hid (fun W (h : CI lay W p cap l) => fewest_all p cap n l W hn h M hM c hcw)
  have MF := Lib.hid (fun W (h : CI lay W p cap l) => many_all p cap n l W hn h M hM c hcw)
  obtain ⟨hgM, hT, hr32⟩ := want_facts l M hM
  have HGM := Lib.hid hgM
  have TL := Lib.hid (total_le M)
  obtain ⟨r, hr⟩ : ∃ r, M.length = r := ⟨_, rfl⟩
  rw [hr] at hr32
  have HR := Lib.hid hr
  have EQ := Lib.hid (fun q q2 c c2 W (h1 : CI lay W q c M) (h2 : CI lay W q2 c2 M) => prefixes_any q q2 c c2 r r M M W hr.symm hr.symm h1 h2 true (by simp))
  obtain ⟨S, hS⟩ : ∃ S, total M = S := ⟨_, rfl⟩
  rw [hS] at MF hT
  have HS := Lib.hid hS
  unfold Law
  rw [← hn]
  have EC := Lib.hid (fun W hg => err_same c W hg)
  obtain ⟨VC, hVC⟩ : ∃ V, er c = V := ⟨_, rfl⟩
  rw [hVC] at FF MF EC
  have hgx := (good_iff x).1 hx
  obtain ⟨R, hR⟩ : ∃ R : Bool, (R = true ↔ x.adr ≤ a ∧ a < x.adr + siz x) := ⟨decide _, decide_eq_true_iff⟩
  have HA := Lib.hid (fun W => has_good x a W hgx ha R hR)
  unfold val at HA
  rw [hx, er_0] at CK
  rw [hx] at PX
  have E1 := Lib.hid (fun W hg => (show Calls Tryd.prog 5 #[.nilIface, .int .i64 0] W fun e w' => e = .returned (.bool true) ∧ Below W.heap.size W w' from err_same 0 W hg))
  have E2 := E1
  have IN := Lib.hid (fun W => in_any a 0 65535 W true ⟨fun _ => ha, fun _ => rfl⟩)
  have RI := Lib.hid (fun W => rIn_any x hgx a ha W R hR)
  clear hx ha hgx hR
  clear hg hc hM hcw hn hgM hr hS hVC
  go_enter Tryd.func3, Tryd.ntmps3
  go_wp2_with fail
  refine (PX.out _).mono ?_; rintro e w1 ⟨rfl, hg1⟩
  have B1 : Below (T0 x w).heap.size (T0 x w) w1 := hg1.below
  have b1 := HB.out w1 B1
  have b10 := b1.1
  have b11 := b1.2
  clear hg1 b1
  go_wp2_with fail
  refine (CK.out _).mono ?_; rintro e w2 ⟨rfl, hg2⟩
  have B2 : Below (T0 x w).heap.size (T0 x w) w2 := below_gr B1 B1.size hg2
  clear hg2 b10 b11 B1
  go_wp2_with fail
  refine (E1.out _ (HGd.out _ B2)).mono ?_; rintro e w3 ⟨rfl, hb3⟩
  have B3 : Below (T0 x w).heap.size (T0 x w) w3 := B2.trans (hb3.mono B2.size)
  have b3 := HB.out w3 B3
  have b30 := b3.1
  have b31 := b3.2
  clear hb3 B2 b3
  go_wp2_with fail
  refine (IN.out _).mono ?_; rintro e w3 ⟨rfl, rfl⟩
  go_wp2_with fail
  refine (HA.out _).mono ?_; rintro e w4 ⟨rfl, hg4⟩
  have B4 : Below (T0 x w).heap.size (T0 x w) w4 := below_gr B3 B3.size hg4
  clear hg4 b30 b31 B3
  go_wp2_with fail
  refine (E2.out _ (HGd.out _ B4)).mono ?_; rintro e w5 ⟨rfl, hb5⟩
  have B5 : Below (T0 x w).heap.size (T0 x w) w5 := B4.trans (hb5.mono B4.size)
  have b5 := HB.out w5 B5
  have b50 := b5.1
  have b51 := b5.2
  clear hb5 B4 b5
  go_wp2_with fail
  refine (RI.out _).mono ?_; rintro e w6 ⟨rfl, hg6⟩
  have B6 : Below (T0 x w).heap.size (T0 x w) w6 := below_gr B5 B5.size hg6
  clear hg6 b50 b51 B5
  go_wp2_with fail
  refine (RF.out _ (HCl.out _ B6)).mono ?_; rintro e w7 ⟨v, rfl, hown, hb7⟩
  have B7 : Below (T0 x w).heap.size (T0 x w) w7 := B6.trans (hb7.mono B6.size)
  obtain ⟨q, cq, rfl, hCq⟩ := hown.form
  rw [HR.out]
  have HQ := Lib.hid hCq
  have hs7 := B7.size
  clear hown hb7 B6 hCq
  go_wp2_with fail
  refine (FF.out _ (HCl.out _ B7)).mono ?_; rintro e w8 ⟨v, rfl, hown, hb8⟩
  have B8 : Below (T0 x w).heap.size (T0 x w) w8 := B7.trans (hb8.mono hs7)
  obtain ⟨q2, cq2, rfl, hCq2⟩ := hown.form
  rw [HR.out]
  have HQ2 := Lib.hid hCq2
  have HQ8 := Lib.hid (HQ.out.below hb8)
  clear hown hb8 hCq2
  go_wp2_with fail
  refine (EC.out _ (HGd.out _ B8)).mono ?_; rintro e w9 ⟨rfl, hb9⟩
  have B9 : Below (T0 x w).heap.size (T0 x w) w9 := B8.trans (hb9.mono B8.size)
  have HQ9 := Lib.hid (HQ8.out.below hb9)
  have HQ29 := Lib.hid (HQ2.out.below hb9)
  clear hb9 HQ HQ2 HQ8 B7 B8
  go_wp2_with fail
  refine (EQ.out _ _ _ _ _ HQ29.out HQ9.out).mono ?_; rintro e wa ⟨rfl, u, rfl⟩
  have BA : Below (T0 x w).heap.size (T0 x w) (w9.drewN u) := below_drewN B9 u
  have HQA := Lib.hid (HQ9.out.below (below_drewN (brefl _) u))
  have hsA := BA.size
  clear B9 HQ9 HQ29
  generalize w9.drewN u = wb at BA HQA hsA ⊢
  go_wp2_with fail
  go_loopw [15, 16] (fun sv iv wr => ∃ k t : Nat, sv = .int .i64 t ∧ iv = .int .i64 k ∧ k ≤ r ∧ t ≤ 65536 ∧ Hid (t = total (M.take k)) ∧ wr = wb) (fun _ i _ => r - (intOf i).toNat)
  case atStart => exact ⟨0, 0, by rfl, by rfl, Nat.zero_le _, by omega, by simp [Hid, total], rfl⟩
  case round =>
    obtain ⟨k, t, rfl, rfl, hk, ht, H, rfl⟩ := hrel
    by_cases hlt : k < r
    · have hkl : k < M.length := by rw [HR.out]; exact hlt
      obtain ⟨b, off, rfl, hbw, hcell⟩ := HQA.out.2.2 (by omega)
      obtain ⟨y, hy⟩ : ∃ y, M[k]? = some y := ⟨_, List.getElem?_eq_getElem hkl⟩
      have y1 : wr.cell? ⟨b, off + k * 2 + 1, none⟩ = some (.int .i64 y.len) := hcell k y hy 1 _ rfl
      have hgy := HGM.out y (List.mem_of_getElem? hy)
      obtain ⟨d, j, hj, hyb, hyb2⟩ := good_mem hgy
      have hyl : y.len = 16 - (j : Int) := by rw [hyb]; rfl
      have hz : siz y = 2 ^ j := by rw [hyb]; exact siz_blk _ j
      have hs := total_take M k y hy
      have hle := TL.out (k + 1)
      rw [hs, ← H.out, HS.out] at hle
      rw [← H.out] at hs
      obtain ⟨z, hzz⟩ : ∃ z, siz y = z := ⟨_, rfl⟩
      rw [hzz] at hs hle
      have PW := Lib.hid (fun W => power_any j hj W (16 - y.len) (by omega) z (by rw [← hzz, hz]))
      have HSs := Lib.hid hs
      have i0 : (0 : Int) ≤ (k : Int) := by omega
      have i1 : (k : Int) < (r : Int) := by omega
      have hwk : IntKind.i64.wrap (16 - y.len) = 16 - y.len := by rw [IntKind.wrap_i64]; omega
      have hq : IntKind.i64.wrap ((t : Int) + (z : Int)) = (t : Int) + (z : Int) := by rw [IntKind.wrap_i64]; omega
      clear hcell hy hkl hgy hyb hyb2 hyl hz hs hzz
      go_wp2_with fail
      refine (PW.out _).mono ?_; rintro e w4 ⟨rfl, rfl⟩
      go_wp2_with fail
      go_roundw
      case rel => exact ⟨k + 1, t + z, by first | rfl | go_num, by first | rfl | go_num, by omega, by omega, HSs.out.symm, by first | trivial | rfl⟩
      case measure => simp [intOf]; omega
    · obtain rfl : k = r := by omega
      have ht' : t = S := by rw [H.out, List.take_of_length_le (by rw [HR.out]; exact Nat.le_refl _), HS.out]
      subst ht'
      clear H
      go_wp2_with fail
      refine (MF.out _ (HCl.out _ BA)).mono ?_; rintro e wc ⟨rfl, hbc⟩
      have BC : Below (T0 x w).heap.size (T0 x w) wc := BA.trans (hbc.mono hsA)
      clear hbc
      go_wp2_with fail
      refine (EC.out _ (HGd.out _ BC)).mono ?_; rintro e wd ⟨rfl, hbd⟩
      have hBE := bcall (balloc (brefl w) _) (BC.trans (hbd.mono BC.size))
      go_wp2_with fail
      go_ret
      exact ⟨rfl, hBE⟩

theorem law_any (x : Pfx) (a : Int) (p : Option Addr) (cap : Nat) (l : List Pfx) (w : World) (hg : Handle w) (hc : CI lay w p cap l) : Law x a p cap l w := by
  by_cases hx : code x = 0
  · by_cases ha : 0 ≤ a ∧ a ≤ 65535
    · exact law_c x a p cap l w hg hc hx ha
    · exact law_b x a p cap l w hg hc hx ha
  · exact law_a x a p cap l w hg hc hx

theorem reads : Tryd.f3.params.toList.all (fun t => Tryd.prog.readableRec t && decide (t < Tryd.prog.types.size)) = true := by kernel_rfl
theorem et : Tryd.prog.globalNamed "errors.errorType" = some 0 := by kernel_rfl
theorem rt : (Tryd.prog.cutTypes.find? (·.1 == "internal/reflectlite.rtype")).map (·.2) = some 78 := by kernel_rfl
theorem oneRow : ((List.range Tryd.prog.types.size).filter fun t => Tryd.prog.rowNamed t [101, 114, 114, 111, 114]) = [28] := by kernel_rfl

theorem handle_of_laid {W : World} (h : laidMetH Tryd.prog Rows.cidrSaysRow.laid W) : Handle W := by
  have h' : laidMet Tryd.prog [] W ∧ handlesMet Tryd.prog Rows.cidrSaysRow.laid W := h
  obtain ⟨name, u, ty, e1, e2, e3, e4, e5⟩ := h'.2 _ (List.mem_singleton.2 rfl)
  have en : name = [101, 114, 114, 111, 114] := (Option.some.inj e1).symm
  subst en
  obtain rfl := Option.some.inj (rt.symm.trans e2)
  have hm : ty ∈ (List.range Tryd.prog.types.size).filter fun t => Tryd.prog.rowNamed t [101, 114, 114, 111, 114] := List.mem_filter.2 ⟨List.mem_range.2 e3, e4⟩
  rw [oneRow] at hm
  obtain rfl := List.mem_singleton.1 hm
  have hh : typeHandle Tryd.prog 28 = .pointer (some ⟨1, 28, none⟩) := by kernel_rfl
  rw [hh] at e5
  have e6 := World.var?_cell et e5 0
  unfold Handle
  simpa using e6

noncomputable def laidWorld (os : Os) : World :=
  { World.holding Tryd.prog os ⟨#[], #[], []⟩ with heap := (World.holding Tryd.prog os ⟨#[], #[], []⟩).heap.modify 0 fun
      | .cells _ t frozen => .cells #[.iface 78 (.agg #[.pointer (some ⟨1, 28, none⟩)])] t frozen
      | o => o }
theorem laid_met (os : Os) : laidMetH Tryd.prog Rows.cidrSaysRow.laid ((laidWorld os).forCall (fun _ _ => 0) ⟨#[], #[.agg #[.int .i64 0, .int .i64 0], .int .i64 0, .slice none 0 0], []⟩).memory :=
  laidMetH_of_parts (laidMet_nil _ _) (by kernel_rfl)
theorem reads_wit (os : Os) {H : Type} (enc : TypeId × Value → H) : ∃ places, DataW.whole enc Tryd.prog ((laidWorld os).forCall (fun _ _ => 0) ⟨#[], #[.agg #[.int .i64 0, .int .i64 0], .int .i64 0, .slice none 0 0], []⟩).memory Tryd.f3.params.toList Rows.cidrSaysSpec.vars false (#[.agg #[.int .i64 0, .int .i64 0], .int .i64 0, .slice none 0 0] : Array Value).toList 8 = some ([.agg [.lit (.int .i64 0), .lit (.int .i64 0)], .lit (.int .i64 0), .nil], [], places) :=
  ⟨[], by kernel_rfl⟩

theorem contract (H : Type) (enc : TypeId × Value → H) (W : World) (base : Nat) (args : Array Value) (ds gs : List (DataW H)) (before : List MemPlace)
    (hval : ∀ (j : Nat) t v, Tryd.f3.params[j]? = some t → args[j]? = some v → Value.okWide Tryd.prog W .any base t v)
    (hW : DataW.Whole enc Tryd.prog Tryd.f3.params.toList Rows.cidrSaysSpec.vars false W args.toList ds gs before) (hL : laidMetH Tryd.prog Rows.cidrSaysRow.laid W) :
    Calls Tryd.prog 3 args W fun e W' => ∃ v, e = .returned v ∧ Rows.cidrSaysSpec.post enc Tryd.prog Tryd.f3 false true false false W args v W' := by
  have hW' := hW
  have hg := handle_of_laid hL
  obtain ⟨p, q, hA0, hV, rfl, hfz, hnd⟩ := hW
  have hA : DataW.TrodAll enc Tryd.prog W 0 (fun _ => true) true Tryd.f3.params.toList args.toList ds p := hA0
  have hlt := hA.lt
  rw [Tryd.params3] at hA hval
  obtain ⟨v0, vs0, d0, ds0, p0, q0, hargs, rfl, rfl, h0, r0⟩ := trodAll_cons hA
  obtain ⟨v1, vs1, d1, ds1, p1, q1, hvs1, rfl, rfl, h1, r1⟩ := trodAll_cons r0
  obtain ⟨v2, vs2, d2, ds2, p2, q2, hvs2, rfl, rfl, h2, r2⟩ := trodAll_cons r1
  obtain ⟨hvsn, rfl, rfl⟩ := trodAll_nil r2
  simp only [hvsn, hvs2, hvs1] at hargs
  obtain rfl : args = #[v0, v1, v2] := by cases args; simp_all
  obtain ⟨x0, rfl, f0⟩ := Go.Proofs.YtfkfffcbhjmekaaDoor.Cidr.open_prefix (hval 0 23 v0 rfl rfl) h0
  obtain ⟨a1, rfl, rfl, rfl, w1⟩ := open_int Tryd.underlying3 (hval 1 3 v1 rfl rfl) h1
  have b1 := bounds_int w1
  obtain ⟨p2a, cap2, l2, rfl, i2, f2, e2⟩ := Go.Proofs.YtfkfffcbhjmekaaDoor.Cidr.open_prefixes (hval 2 24 v2 rfl rfl) h2 (fun x hx => hlt x (by simp [hx]))
  obtain ⟨rfl, rfl⟩ := trodVars_none hV
  clear hA0
  exact law_post 4 laid reads rfl Tryd.underlying4 rfl hW' ⟨rfl, rfl, rfl⟩ (law_any x0 a1 p2a cap2 l2 W hg i2)

set_option maxRecDepth 100000 in
theorem lifted (os : Os) (started : os.Started) (H : Type) (enc : TypeId × Value → H) (F : Stop.Interp) :
    ReturnsInHanded {} Tryd.checked os 3 .any ((OpenSpec.ofChange Rows.cidrSaysSpec).preRow enc Tryd.prog Tryd.f3 Rows.cidrSaysRow.domain false Rows.cidrSaysRow.laid) (((OpenSpec.ofChange Rows.cidrSaysSpec).at F).post enc Tryd.prog Tryd.f3 false true false false) := by
  obtain ⟨places, hx⟩ := reads_wit os enc
  refine returnsInHanded_of_row (C := Tryd.checked) (s := (OpenSpec.ofChange Rows.cidrSaysSpec)) own started (by kernel_rfl) Tryd.func3
    (witness_row_at (enc := enc) (C := Tryd.checked) false (laidWorld os) #[.agg #[.int .i64 0, .int .i64 0], .int .i64 0, .slice none 0 0] rfl (by kernel_rfl) (by kernel_rfl) (by kernel_rfl)
      (OpenSpec.preRow_of_cond 8 hx (by kernel_rfl) (fun k hk => by cases hk) (by kernel_rfl) (laid_met os))) ?_
  intro W base args ds gs before hval hW _ hcond _ hL _ _
  exact contract H enc W base args ds gs before hval hW hL

theorem said : Rows.CidrSaysSaid :=
  OpenClaim.holds_of_cond 3 Tryd.f3 rfl rfl rfl rfl rfl rfl rfl ⟨rfl, rfl, rfl, rfl, rfl⟩ rfl rfl rfl rfl rfl (by kernel_rfl) Tryd.func3 (by kernel_rfl)
    (of_decide_eq_true (by kernel_rfl)) (by unfold Func.isWrapper; first | (rw [if_pos (by decide +kernel)]; kernel_rfl) | (rw [if_neg (by decide +kernel)]; exact ⟨rfl, rfl⟩))
    (fun os started H enc _ F => by rw [OpenClaim.pre_eq_preRow]; exact lifted os started H enc F)

theorem plain (f : FuncId) (fn : Func) (hf : Tryd.pinned.checked.prog.funcNamed Rows.cidrSaysRow.func = some f) (hfn : Tryd.pinned.checked.prog.funcs[f]? = some fn) :
    true = Tryd.pinned.checked.prog.looks [] ∧ ∀ (j : Nat) t, fn.params[j]? = some t → Tryd.pinned.checked.prog.wantsStandIn t = false := by
  obtain rfl : f = 3 := Option.some.inj ((show Tryd.prog.funcNamed Rows.cidrSaysRow.func = some 3 by kernel_rfl).symm.trans hf) |>.symm
  obtain rfl : fn = Tryd.f3 := (Option.some.inj (Tryd.func3.symm.trans hfn)).symm
  refine ⟨by kernel_rfl, fun j t ht => ?_⟩
  have hall : Tryd.f3.params.toList.all (fun t => !Tryd.prog.wantsStandIn t) = true := by kernel_rfl
  have hm : t ∈ Tryd.f3.params.toList := by simpa using Array.mem_of_getElem? ht
  have := List.all_eq_true.1 hall t hm
  show Tryd.prog.wantsStandIn t = false
  simpa using this

theorem proved : Rows.CidrSaysCardSaid :=
  Claim7.holds_tied_plain_at .later [] _ _ _ _ said (fun _ h => by cases h) (by kernel_rfl) (fun _ h => by cases h) cidrSays_row_tie rfl ⟨rfl, rfl⟩ (by kernel_rfl) rfl plain (by kernel_rfl)

end Go.Proofs.YtfkfffcbhjmekaaDoor.cidrSaysP
