/- A part of the law CidrHalves: the prefix is none. No statement is proved here. -/
import Derived.Test.YtfkfffcbhjmekaaCidrHalves0
namespace Go.Proofs.Ytfkfffcbhjmekaa.cidrHalvesP
open Go.ChangeShapes Go.WideShapes Go.ChangeAt Go.RowKit Go.Sort
open Go.Proofs.Ytfkfffcbhjmekaa.Kit Go.Proofs.Ytfkfffcbhjmekaa.App Go.Proofs.Ytfkfffcbhjmekaa.Cells Go.Proofs.Ytfkfffcbhjmekaa.Cidr Go.Proofs.Ytfkfffcbhjmekaa.CidrMath
set_option linter.unusedVariables false
set_option maxRecDepth 20000


set_option maxHeartbeats 4000000 in
theorem law_a1_bad (x : Pfx) (p : Option Addr) (cap : Nat) (l : List Pfx) (w : World) (hc : CI lay w p cap l) (h : wrong l ≠ 0) (hx : code x ≠ 0) : Law x p cap l w := by
  unfold Law
  have M1 := Lib.hid (fun W (hw : Below w.heap.size w W) => fewest_bad p cap l.length l W rfl (hc.below hw) _ rfl h)
  obtain ⟨c, hcc⟩ : ∃ c, wrong l = c := ⟨_, rfl⟩
  rw [hcc] at M1
  clear hc h hcc
  generalize l.length = n at M1 ⊢
  have FA := Lib.hid (fact_any (w.alloc (.cells #[.int .i64 x.adr, .int .i64 x.len] 32)))
  have CK := Lib.hid (fun W => check_any x W _ rfl)
  unfold val at CK
  rw [er_ne hx] at CK
  have B0 := fun w1 (hb : Below (w.alloc (.cells #[.int .i64 x.adr, .int .i64 x.len] 32)).heap.size (w.alloc (.cells #[.int .i64 x.adr, .int .i64 x.len] 32)) w1) => (Box.new w x 32).below hb (by simp)
  generalize code x = cx at CK hx
  go_enter Try.func5, Try.ntmps5
  go_wp2_with fail
  refine FA.out.mono ?_; rintro e w1 ⟨rfl, hb1⟩
  obtain ⟨_, b0, b1⟩ := B0 w1 hb1
  have hB1 : Below w.heap.size w w1 := bcall (balloc (brefl w) _) hb1
  clear hb1 B0 FA
  go_wp2_with fail
  refine (CK.out _).mono ?_; rintro e w2 ⟨rfl, hg2⟩
  have hBw : Below w.heap.size w w2 := below_gr hB1 hB1.size hg2
  clear hB1 hg2 b0 b1
  go_wp2_with fail
  refine (M1.out _ hBw).mono ?_; rintro e w8 ⟨rfl, hb8⟩
  have hB8 := bcall hBw hb8
  go_wp2_with fail
  go_ret
  exact ⟨rfl, hB8⟩

set_option maxHeartbeats 4000000 in
theorem law_a1_good (x : Pfx) (p : Option Addr) (cap : Nat) (l : List Pfx) (w : World) (hc : CI lay w p cap l) (h : wrong l = 0) (hx : code x ≠ 0) : Law x p cap l w := by
  unfold Law
  have M1 := Lib.hid (fun W (hw : Below w.heap.size w W) => fewest_good p cap l.length l W rfl (hc.below hw) h)
  obtain ⟨hl32, hg⟩ := (wrong_zero l).1 h
  have HGm := Lib.hid (few0_good l)
  have HPm := Lib.hid (few0_pair l)
  have hlen := few0_len l hg
  obtain ⟨m, hm⟩ : ∃ m, few0 l = m := ⟨_, rfl⟩
  rw [hm] at M1 HGm HPm hlen
  obtain ⟨r, hr⟩ : ∃ r, m.length = r := ⟨_, rfl⟩
  have hr32 : r ≤ 32 := by omega
  have HR := Lib.hid hr
  have PX := Lib.hid (fun (x : Pfx) (hx : CidrMath.Good x) W => rprefix_any x W 0 ((good_iff x).2 hx).symm)
  unfold val at PX
  clear hc h hg hm hr hlen hl32
  generalize l.length = n at M1 ⊢
  have FA := Lib.hid (fact_any (w.alloc (.cells #[.int .i64 x.adr, .int .i64 x.len] 32)))
  have CK := Lib.hid (fun W => check_any x W _ rfl)
  unfold val at CK
  rw [er_ne hx] at CK
  have B0 := fun w1 (hb : Below (w.alloc (.cells #[.int .i64 x.adr, .int .i64 x.len] 32)).heap.size (w.alloc (.cells #[.int .i64 x.adr, .int .i64 x.len] 32)) w1) => (Box.new w x 32).below hb (by simp)
  generalize code x = cx at CK hx
  go_enter Try.func5, Try.ntmps5
  go_wp2_with fail
  refine FA.out.mono ?_; rintro e w1 ⟨rfl, hb1⟩
  obtain ⟨_, b0, b1⟩ := B0 w1 hb1
  have hB1 : Below w.heap.size w w1 := bcall (balloc (brefl w) _) hb1
  clear hb1 B0 FA
  go_wp2_with fail
  refine (CK.out _).mono ?_; rintro e w2 ⟨rfl, hg2⟩
  have hBw : Below w.heap.size w w2 := below_gr hB1 hB1.size hg2
  clear hB1 hg2 b0 b1
  go_wp2_with fail
  refine (M1.out _ hBw).mono ?_; rintro e w8 ⟨v, rfl, hown, hb8⟩
  have hB8 := bcall hBw hb8
  obtain ⟨q, c, rfl, hCm⟩ := hown.form
  rw [HR.out]
  have HCm := Lib.hid hCm
  have hs8 := hB8.size
  clear hown hCm hb8 M1 hBw
  go_wp2_with fail
  go_loopw [12] (fun iv wr => ∃ k : Nat, iv = .int .i64 ((k : Int) + 1) ∧ (k + 1 ≤ r ∨ k = 0) ∧ Below w8.heap.size w8 wr) (fun i _ => r + 1 - (intOf i).toNat)
  case atStart => exact ⟨0, by first | rfl | go_num, .inr rfl, brefl w8⟩
  case round =>
    obtain ⟨k, rfl, hk, hB⟩ := hrel
    have hsB := hB.size
    by_cases hlt : k + 1 < r
    · have t0 : decide ((k : Int) + 1 < (r : Int)) = true := decide_eq_true (by omega)
      have hkl : k + 1 < m.length := by rw [HR.out]; exact hlt
      obtain ⟨b, off, rfl, hbw, hcell⟩ := HCm.out.2.2 (by omega)
      obtain ⟨x, hx⟩ : ∃ x, m[k]? = some x := ⟨_, List.getElem?_eq_getElem (by omega)⟩
      obtain ⟨y, hy⟩ : ∃ y, m[k + 1]? = some y := ⟨_, List.getElem?_eq_getElem hkl⟩
      have hgx := HGm.out x (List.mem_of_getElem? hx)
      have hgy := HGm.out y (List.mem_of_getElem? hy)
      have hst : Step x y := by
        have h1 := List.pairwise_iff_getElem.1 HPm.out k (k + 1) (by omega) hkl (by omega)
        rw [List.getElem?_eq_getElem (by omega)] at hx hy
        rw [Option.some.inj hx, Option.some.inj hy] at h1
        exact h1
      have FC := fun (W : World) (hW : Below w8.heap.size w8 W) j (hj : W.heap[b]? = w8.heap[b]?) => World.cell?_of_block (w := w8) (w' := W) (a := ⟨b, j, none⟩) hj
      have CX := Lib.hid (fun (W : World) (hW : Below w8.heap.size w8 W) => (show (W.cell? ⟨b, off + k * 2, none⟩ = some (.int .i64 x.adr) ∧ W.cell? ⟨b, off + k * 2 + 1, none⟩ = some (.int .i64 x.len)) ∧ (W.cell? ⟨b, off + (k + 1) * 2, none⟩ = some (.int .i64 y.adr) ∧ W.cell? ⟨b, off + (k + 1) * 2 + 1, none⟩ = some (.int .i64 y.len)) from
        ⟨⟨(FC W hW _ (hW.block b hbw)).trans (hcell k x hx 0 _ rfl), (FC W hW _ (hW.block b hbw)).trans (hcell k x hx 1 _ rfl)⟩, (FC W hW _ (hW.block b hbw)).trans (hcell (k + 1) y hy 0 _ rfl), (FC W hW _ (hW.block b hbw)).trans (hcell (k + 1) y hy 1 _ rfl)⟩))
      obtain ⟨⟨x0, x1⟩, y0, y1⟩ := CX.out wr hB
      obtain ⟨d, j, hj, hxb, hxb2⟩ := good_mem hgx
      have hya := good_adr hgy
      obtain ⟨yb, hyb, hyh⟩ := hya
      have hyl := good_lt hgy hyh
      obtain ⟨z, hz⟩ : ∃ z, siz x = z := ⟨_, rfl⟩
      have hzz : z = 2 ^ j := by rw [← hz, hxb]; exact siz_blk _ j
      have hz2 : z ≤ 65536 := by rw [hzz]; exact Nat.le_trans (Nat.pow_le_pow_right (by omega) hj) (by omega)
      have hz1 : 0 < z := by rw [hzz]; exact pow_pos' j
      have hxl : x.len = 16 - (j : Int) := by rw [hxb]; rfl
      have hxa : 0 ≤ x.adr ∧ x.adr ≤ 65535 := by
        have : x.adr = ((d * 2 ^ j : Nat) : Int) := by rw [hxb]; rfl
        have := pow_pos' j
        omega
      have PW := Lib.hid (fun W => size_any' j hj W (16 - x.len) (by omega) z hzz)
      have PXx := Lib.hid (PX.out x hgx)
      have PXy := Lib.hid (PX.out y hgy)
      have hst1 := hst.1
      have hst2 := hst.2
      rw [hz] at hst1 hst2
      have HST2 := Lib.hid hst2
      have i0 : (0 : Int) ≤ (k : Int) := by omega
      have i1 : (k : Int) < (r : Int) := by omega
      have i2 : (0 : Int) ≤ (k : Int) + 1 := by omega
      have i3 : (k : Int) + 1 < (r : Int) := by omega
      have i4 : ((k : Int) + 1).toNat = k + 1 := by omega
      have r1 : IntKind.i64.wrap ((k : Int) + 1 - 1) = (k : Int) := by rw [IntKind.wrap_i64]; omega
      have r0 : IntKind.i64.wrap (k : Int) = (k : Int) := by rw [IntKind.wrap_i64]; omega
      have r2 : IntKind.i64.wrap ((k : Int) + 1 + 1) = (k : Int) + 1 + 1 := by rw [IntKind.wrap_i64]; omega
      have r3 : IntKind.i64.wrap (16 - x.len) = 16 - x.len := by rw [IntKind.wrap_i64]; omega
      have r4 : IntKind.i64.wrap (x.adr + (z : Int)) = x.adr + (z : Int) := by rw [IntKind.wrap_i64]; omega
      have r5 : IntKind.i64.wrap (2 * (z : Int)) = 2 * (z : Int) := by rw [IntKind.wrap_i64]; omega
      have u1 : decide (y.adr < x.adr + (z : Int)) = false := decide_eq_false (by omega)
      have hmix := mixed
      clear hcell hx hy hgx hgy hst hst1 hst2 FC hxb hxb2 hyh hyb hyl hz hzz hxl hkl
      go_wp2_with fail
      refine (PXx.out _).mono ?_; rintro e w5 ⟨rfl, hg5⟩
      have hB5 : Below w8.heap.size w8 w5 := below_gr hB hsB hg5
      have hs58 := hB5.size
      clear hg5 x0 x1 y0 y1
      obtain ⟨⟨x0, x1⟩, y0, y1⟩ := CX.out w5 hB5
      go_wp2_with fail
      refine (PXy.out _).mono ?_; rintro e w6 ⟨rfl, hg6⟩
      have hB6 : Below w8.heap.size w8 w6 := below_gr hB5 hs58 hg6
      have hs68 := hB6.size
      clear hg6 x0 x1 y0 y1
      obtain ⟨⟨x0, x1⟩, y0, y1⟩ := CX.out w6 hB6
      go_wp2_with fail
      refine (PW.out _).mono ?_; rintro e w7 ⟨rfl, rfl⟩
      have hbw7 : b < w7.heap.size := by omega
      have gx0 := fun n os => cell_grown (a := ⟨b, off + k * 2, none⟩) hbw7 x0 n os
      have gx1 := fun n os => cell_grown (a := ⟨b, off + k * 2 + 1, none⟩) hbw7 x1 n os
      have gy0 := fun n os => cell_grown (a := ⟨b, off + (k + 1) * 2, none⟩) hbw7 y0 n os
      have gy1 := fun n os => cell_grown (a := ⟨b, off + (k + 1) * 2 + 1, none⟩) hbw7 y1 n os
      clear hB hB5 PXx PXy PW
      by_cases hl : y.len = x.len
      · have v1 : (y.len == x.len) = true := by simp [hl]
        have v1' : decide (y.len = x.len) = true := decide_eq_true hl
        by_cases ha : y.adr = x.adr + (z : Int)
        · have v2 : (y.adr == x.adr + (z : Int)) = true := by simp [ha]
          have v2' : decide (y.adr = x.adr + (z : Int)) = true := decide_eq_true ha
          have hm : x.adr % (2 * (z : Int)) ≠ 0 := fun h0 => HST2.out ⟨hl.symm, ha, h0⟩
          have hmt : x.adr.tmod (2 * (z : Int)) = x.adr % (2 * (z : Int)) := Int.tmod_eq_emod_of_nonneg hxa.1
          obtain ⟨mm, hmm⟩ : ∃ mm, x.adr % (2 * (z : Int)) = mm := ⟨_, rfl⟩
          rw [hmm] at hm hmt
          have hm0 : 0 ≤ mm := by rw [← hmm]; exact Int.emod_nonneg _ (by omega)
          have hm1 : mm < 131072 := by rw [← hmm]; have := Int.emod_lt_of_pos x.adr (show (0 : Int) < 2 * (z : Int) by omega); omega
          have hrm : IntKind.i64.wrap mm = mm := by rw [IntKind.wrap_i64]; omega
          have v3 : (mm == 0) = false := by simp [hm]
          have v3' : decide (mm = 0) = false := decide_eq_false hm
          have hz9 : ¬ (2 * (z : Int) = 0) := by omega
          have hz8 : ¬ (z = 0) := by omega
          clear hl ha
          go_wp2_with fail
          refine wp_region_quiet_grown (by assumption) (by kernel_rfl) ?_
          repeat (first | go_big_quiet_skip | quiet_step (fail))
          refine wpQuiet_nil ?_
          intro _ hw'
          obtain ⟨⟨nq, osq⟩, hw''⟩ := hw'
          subst hw''
          go_wp2_with fail
          go_roundw
          case rel => exact ⟨k + 1, by first | rfl | go_num, by omega, below_gr hB6 hs68 (Gr.drewN _ _ _)⟩
          case measure => simp [intOf]; omega
        · have v2 : (y.adr == x.adr + (z : Int)) = false := by simp [ha]
          have v2' : decide (y.adr = x.adr + (z : Int)) = false := decide_eq_false ha
          clear hl
          go_wp2_with fail
          refine wp_region_quiet_grown (by assumption) (by kernel_rfl) ?_
          repeat (first | go_big_quiet_skip | quiet_step (fail))
          refine wpQuiet_nil ?_
          intro _ hw'
          obtain ⟨⟨nq, osq⟩, hw''⟩ := hw'
          subst hw''
          go_wp2_with fail
          go_roundw
          case rel => exact ⟨k + 1, by first | rfl | go_num, by omega, below_gr hB6 hs68 (Gr.drewN _ _ _)⟩
          case measure => simp [intOf]; omega
      · have v1 : (y.len == x.len) = false := by simp [hl]
        have v1' : decide (y.len = x.len) = false := decide_eq_false hl
        go_wp2_with fail
        refine wp_region_quiet_grown (by assumption) (by kernel_rfl) ?_
        repeat (first | go_big_quiet_skip | quiet_step (fail))
        refine wpQuiet_nil ?_
        intro _ hw'
        obtain ⟨⟨nq, osq⟩, hw''⟩ := hw'
        subst hw''
        go_wp2_with fail
        go_roundw
        case rel => exact ⟨k + 1, by first | rfl | go_num, by omega, below_gr hB6 hs68 (Gr.drewN _ _ _)⟩
        case measure => simp [intOf]; omega
    · have t0 : decide ((k : Int) + 1 < (r : Int)) = false := decide_eq_false (by omega)
      have hBE := Lib.hid (bcall hB8 hB)
      go_wp2_with fail
      go_ret
      exact ⟨rfl, hBE.out⟩
end Go.Proofs.Ytfkfffcbhjmekaa.cidrHalvesP
