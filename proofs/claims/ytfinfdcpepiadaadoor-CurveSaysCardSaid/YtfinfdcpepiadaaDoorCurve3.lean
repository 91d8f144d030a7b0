/- Package curve: Fold. No statement is proved here. -/
import Derived.Test.YtfinfdcpepiadaaDoorCurve2
import Derived.Test.YtfinfdcpepiadaaDoorOwnI
import Derived.Test.YtfinfdcpepiadaaDoorBlk
import Derived.BigRegion
namespace Go.Proofs.YtfinfdcpepiadaaDoor.Curve
open Go.ChangeShapes Go.WideShapes Go.ChangeAt Go.RowKit Go.Proofs.YtfinfdcpepiadaaDoor.Kit Go.Proofs.YtfinfdcpepiadaaDoor.App Go.Proofs.YtfinfdcpepiadaaDoor.Err
set_option linter.unusedVariables false
set_option maxRecDepth 20000
set_option maxHeartbeats 1000000

/-- The fold while it is written. -/
def half (f g : List Int) (n k : Nat) : List Int := foldTo f g k ++ List.replicate (n - k) 0
theorem half_zero (f g : List Int) (n : Nat) : half f g n 0 = List.replicate n 0 := by simp [half, foldTo]
theorem half_end (f g : List Int) (n : Nat) : half f g n n = foldTo f g n := by simp [half]
theorem half_step {f g : List Int} {n k : Nat} (hk : k < n) (m : Int) (hm : m = low f g k) : (half f g n k).set k m = half f g n (k + 1) := by
  subst hm
  unfold half
  rw [List.set_append_right _ _ (by rw [foldTo_len]; exact Nat.le_refl _), foldTo_len, Nat.sub_self, foldTo_succ, List.append_assoc]
  obtain ⟨d, hd⟩ : ∃ d, n - k = d + 1 := ⟨n - k - 1, by omega⟩
  rw [hd, show n - (k + 1) = d by omega, List.replicate_succ]
  rfl
theorem half_get {f g : List Int} {n k : Nat} (hk : k < n) : (half f g n k)[k]?.getD 0 = 0 := by
  unfold half
  rw [List.getElem?_append_right (by rw [foldTo_len]; exact Nat.le_refl _), foldTo_len, Nat.sub_self]
  obtain ⟨d, hd⟩ : ∃ d, n - k = d + 1 := ⟨n - k - 1, by omega⟩
  rw [hd]; rfl
theorem half_len {f g : List Int} {n k : Nat} (hk : k ≤ n) : (half f g n k).length = n := by
  unfold half
  rw [List.length_append, foldTo_len, List.length_replicate]; omega
theorem wf_small {x : Int} (h : 0 ≤ x ∧ x ≤ 2000) : (Lit.int .i64 x).wf = true := by
  simp [Lit.wf, IntKind.min, IntKind.max, IntKind.signed, IntKind.bits]; omega
theorem fold_bad (p q : Option Addr) (cp cq n m : Nat) (f g : List Int) (w : World) (hn : n = f.length) (hm : m = g.length) (hf : Ints w p cp f) (hg : Ints w q cq g) (c : Int) (hc : two f g = c) (h0 : c ≠ 0) : Calls Tryd.prog 12 #[.slice p n cp, .slice q m cq] w fun e w' => e = .returned (.tuple #[.slice none 0 0, er c]) ∧ ∃ m, w' = w.drewN m := by
  have CB := Lib.hid (both_any p q cp cq n m f g w hn hm hf hg c hc)
  rw [er_ne h0] at CB ⊢
  clear hn hm hf hg hc h0
  go_enter Tryd.func12, Tryd.ntmps12
  go_wp2_with fail
  refine CB.out.mono ?_; rintro e w1 ⟨rfl, i, rfl⟩
  go_wp2_with fail
  go_ret2
  exact ⟨rfl, _, rfl⟩
set_option maxHeartbeats 4000000 in
theorem fold_good (bf of bg og cf cg n : Nat) (f g : List Int) (w : World) (hn : n = f.length) (hm : n = g.length) (hf : Ints w (some ⟨bf, of, none⟩) cf f) (hg : Ints w (some ⟨bg, og, none⟩) cg g) (gf : Good f) (gg : Good g) (base : Nat) (hbase : w.heap.size = base) : Calls Tryd.prog 12 #[.slice (some ⟨bf, of, none⟩) n cf, .slice (some ⟨bg, og, none⟩) n cg] w fun e w' => e = .returned (.tuple #[.slice (some ⟨base, 0, none⟩) n n, .nilIface]) ∧ OwnI w' base (.slice (some ⟨base, 0, none⟩) n n) (foldTo f g n) ∧ Below base w w' := by
  have CB := Lib.hid (both_any _ _ cf cg n n f g w hn hm hf hg 0 (two_zero.2 ⟨gf, gg, by rw [← hn, ← hm]⟩))
  rw [er_0] at CB
  have h1 := gf.pos
  have h2 := gf.len
  rw [← hn] at h1 h2
  have CF := Lib.hid (fun W (hW : Below w.heap.size w W) k (hk : k < n) => (show W.cell? ⟨bf, of + k, none⟩ = some (.int .i64 (am f k)) from by
    exact cell_at (hf.below hW) k (by rw [← hn]; exact hk)))
  have CG := Lib.hid (fun W (hW : Below w.heap.size w W) k (hk : k < n) => (show W.cell? ⟨bg, og + k, none⟩ = some (.int .i64 (am g k)) from by
    exact cell_at (hg.below hW) k (by rw [← hm]; exact hk)))
  have GF := Lib.hid gf
  have GG := Lib.hid gg
  rw [hbase] at CF CG
  have HBS := Lib.hid hbase
  clear hn hm hf hg gf gg hbase
  go_enter Tryd.func12, Tryd.ntmps12
  go_wp2_with fail
  refine CB.out.mono ?_; rintro e w1 ⟨rfl, i0, hw1⟩
  have hsz : w1.heap.size = base := by rw [hw1]; exact HBS.out
  have hB1 : Below base w w1 := by rw [hw1, ← HBS.out]; exact bdrewN (brefl w) i0
  obtain ⟨w2, hmk, hou, hg2⟩ := made_ints w1 n (by omega)
  rw [hsz] at hmk hou
  have HO0 := Lib.hid (show OwnI w2 base (.slice (some ⟨base, 0, none⟩) n n) (half f g n 0) by rw [half_zero]; exact hou)
  have HB0 : Hid (Below base w w2) := Lib.hid (hB1.trans ⟨hg2.os, hg2.tape, hg2.output, hg2.size, fun k hk => hg2.block k (by omega) (by simp)⟩)
  clear CB hw1 hsz hB1 hou hg2
  go_wp2_with fail
  clear hmk
  go_loopw [22] (fun tv wr => ∃ t : Nat, t ≤ n ∧ tv = .int .i64 t ∧ Hid (OwnI wr base (.slice (some ⟨base, 0, none⟩) n n) (half f g n t)) ∧ Hid (Below base w wr)) (fun t _ => n - (intOf t).toNat)
  case atStart => exact ⟨0, Nat.zero_le _, rfl, HO0, HB0⟩
  case round =>
    obtain ⟨t, ht, rfl, HO, HB⟩ := hrel
    clear HO0 HB0
    by_cases hlt : t < n
    · have c0 := CF.out wr HB.out 0 (by omega)
      have c1 := CG.out wr HB.out t hlt
      rw [Nat.add_zero] at c0
      have a0 := GF.out.num 0
      have a1 := GG.out.num t
      have HP0 := Lib.hid (part_first f g t)
      obtain ⟨x0, hx0⟩ : ∃ x0, am f 0 = x0 := ⟨_, rfl⟩
      obtain ⟨y0, hy0⟩ : ∃ y0, am g t = y0 := ⟨_, rfl⟩
      rw [hx0, hy0] at HP0
      rw [hx0] at c0 a0
      rw [hy0] at c1 a1
      obtain ⟨p1, p2⟩ := a0
      obtain ⟨p3, p4⟩ := a1
      clear hx0 hy0
      go_wp2_with fail
      go_region
      go_wp2_with fail
      have HO1 := Lib.hid (show OwnI wr.drew base (.slice (some ⟨base, 0, none⟩) n n) (half f g n t) from HO.out)
      have HB1 := Lib.hid (show Below base w wr.drew from below_drewN HB.out 1)
      clear HO HB c0 c1
      generalize wr.drew = w3 at HO1 HB1 ⊢
      go_loopw [9, 10] (fun mv sv wr => ∃ (s : Nat) (m : Int), 1 ≤ s ∧ s ≤ t + 1 ∧ sv = .int .i64 s ∧ mv = .int .i64 m ∧ Hid (Part f g t s m) ∧ Hid (OwnI wr base (.slice (some ⟨base, 0, none⟩) n n) (half f g n t)) ∧ Hid (Below base w wr)) (fun _ s _ => t + 1 - (intOf s).toNat)
      case atStart => exact ⟨1, x0 + y0, Nat.le_refl _, by omega, rfl, by first | rfl | go_num, HP0, HO1, HB1⟩
      case round =>
        obtain ⟨s, m, hs1, hs2, rfl, rfl, HP, HO2, HB2⟩ := hrel
        clear HP0 HO1 HB1
        have hm := part_num GF.out GG.out HP.out
        obtain ⟨m1, m2⟩ := hm
        by_cases hst : s ≤ t
        · have u1 : decide ((s : Int) ≤ (t : Int)) = true := decide_eq_true (by omega)
          have c0 := CF.out wr HB2.out s (by omega)
          have c1 := CG.out wr HB2.out (t - s) (by omega)
          have a0 := GF.out.num s
          have a1 := GG.out.num (t - s)
          obtain ⟨m', hm'⟩ : ∃ m', (if am f s + am g (t - s) < m then am f s + am g (t - s) else m) = m' := ⟨_, rfl⟩
          have HP3 := Lib.hid (part_step HP.out hst m' hm')
          obtain ⟨d, hd⟩ : ∃ d, t - s = d := ⟨_, rfl⟩
          have hd2 : (t : Int) - (s : Int) = (d : Int) := by omega
          have hd3 : (d : Int) < (n : Int) := by omega
          rw [hd] at c1 a1 hm'
          generalize am f s = x at c0 a0 hm'
          generalize am g d = y at c1 a1 hm'
          obtain ⟨p5, p6⟩ := a0
          obtain ⟨p7, p8⟩ := a1
          clear hd
          go_wp2_with fail
          go_region
          go_wp2_with fail
          go_roundw
          case rel => exact ⟨s + 1, m', by omega, by omega, by first | rfl | go_num, rfl, HP3, Lib.hid HO2.out, Lib.hid (below_drewN HB2.out 1)⟩
          case measure => simp [intOf]; omega
        · obtain rfl : s = t + 1 := by omega
          have u1 : decide ((t : Int) + 1 ≤ (t : Int)) = false := decide_eq_false (by omega)
          have fz := own_fz HO2.out t
          have cz := own_cell HO2.out t (by rw [half_len ht]; exact hlt)
          rw [half_get hlt] at cz
          have HO3 := Lib.hid (own_set HO2.out t m (wf_small ⟨m1, m2⟩))
          rw [half_step hlt m (part_low HP.out)] at HO3
          go_wp2_with fail
          go_roundw
          case rel => exact ⟨t + 1, by omega, by first | rfl | go_num, HO3, Lib.hid (below_set HB2.out base t _ (Nat.le_refl _))⟩
          case measure => simp [intOf]; omega
    · obtain rfl : t = n := by omega
      have HE := Lib.hid (show OwnI wr base (.slice (some ⟨base, 0, none⟩) t t) (foldTo f g t) by rw [← half_end]; exact HO.out)
      clear HO
      go_wp2_with fail
      go_ret2
      exact ⟨rfl, HE.out, HB.out⟩
theorem fold_any (p q : Option Addr) (cp cq n m : Nat) (f g : List Int) (w : World) (hn : n = f.length) (hm : m = g.length) (hf : Ints w p cp f) (hg : Ints w q cq g) (c : Int) (hc : two f g = c) (u : List Int) (hu : (if c = 0 then fold f g else []) = u) (k : Nat) (hk : u.length = k) : Calls Tryd.prog 12 #[.slice p n cp, .slice q m cq] w fun e w' => (∃ r cr, e = .returned (.tuple #[.slice r k cr, er c]) ∧ Ints w' r cr u) ∧ Below w.heap.size w w' := by
  by_cases h0 : c = 0
  · subst h0
    rw [if_pos rfl] at hu
    obtain ⟨gf, gg, hl⟩ := two_zero.1 hc
    obtain rfl : n = m := by rw [hn, hm, hl]
    obtain ⟨b1, o1, rfl⟩ := at_some hf gf.pos
    obtain ⟨b2, o2, rfl⟩ := at_some hg gg.pos
    rw [er_0]
    refine (fold_good _ _ _ _ _ _ n f g w hn hm hf hg gf gg _ rfl).mono fun e w' h => ?_
    obtain ⟨rfl, ho, hb⟩ := h
    rw [show foldTo f g n = u by rw [← hu, hn]; rfl] at ho
    obtain ⟨pa, ca, e, hi⟩ := ho.form
    rw [hk] at e
    exact ⟨⟨pa, ca, by rw [e], hi⟩, hb⟩
  · rw [if_neg h0] at hu
    subst hu
    obtain rfl : k = 0 := hk.symm
    refine (fold_bad p q cp cq n m f g w hn hm hf hg c hc h0).mono fun e w' h => ?_
    obtain ⟨rfl, i, rfl⟩ := h
    exact ⟨⟨none, 0, rfl, Ints.nil _⟩, bdrewN (brefl w) i⟩
end Go.Proofs.YtfinfdcpepiadaaDoor.Curve
