/- Package wheel: Stop. No statement is proved here. -/
import Derived.Test.YtjknojfdlpgicaaDoorWheelDel
import Derived.Test.YtjknojfdlpgicaaDoorWheelStart
namespace Go.Proofs.YtjknojfdlpgicaaDoor.Wheel
open Go.ChangeShapes Go.WideShapes Go.ChangeAt Go.RowKit Go.Proofs.YtjknojfdlpgicaaDoor.Kit Go.Proofs.YtjknojfdlpgicaaDoor.App Go.Proofs.YtjknojfdlpgicaaDoor.Queue Go.Proofs.YtjknojfdlpgicaaDoor.MapZ Go.Proofs.YtjknojfdlpgicaaDoor.WheelMath
set_option linter.unusedVariables false
set_option maxRecDepth 20000
set_option maxHeartbeats 2000000

theorem er_5 : er 5 = .iface 42 (.int .i64 5) := rfl
theorem stop_none (X : Nat → Prop) (b n : Nat) (left : Int → Nat) (i : Int) (w : World) (H : Wh X w b n left) (hi : (Lit.int .i64 i).wf = true) (hl : left i = 0) :
    Calls Tryd.prog 10 #[.pointer (some ⟨b, 0, none⟩), .int .i64 i] w fun e w' => e = .returned (er 5) ∧ Below w.heap.size w w' := by
  rw [er_5]
  obtain ⟨m, now, sv, q, h, hS, hI⟩ := H
  have hS0 := hS.below (balloc (brefl w) (.cells #[.int .i64 i] 3))
  have hcb := (Ints.one w i hi).2.2.2 (by simp)
  obtain ⟨b0, off0, e0, _, hc0⟩ := hcb
  injection e0 with e0
  injection e0 with e1 e2
  subst e1; subst e2
  have hc1 := hc0 0 (by simp)
  have hc1 : (w.alloc (.cells #[.int .i64 i] 3)).cell? ⟨w.heap.size, 0, none⟩ = some (.int .i64 i) := hc1
  have c1 := hS0.blk.cell 401 _ (cells_map m now sv)
  rcases left_key hI i with ⟨h1, h2⟩ | ⟨h1, _⟩
  · have hlk : ∀ k, (Instr.lookup 38 (.map (some m)) (.int .i64 i) true).run Tryd.prog ((w.alloc (.cells #[.int .i64 i] 3)).drewN k) = .ok (.tuple #[.int .i64 0, .bool false]) ((w.alloc (.cells #[.int .i64 i] 3)).drewN k) := fun k => by
      have := (hS0.drewN k).map.look_ok hi
      rw [h2] at this
      exact this
    have HB := Lib.hid (balloc (brefl w) (.cells #[.int .i64 i] 3))
    clear hS hI h1 h2 hl hS0
    go_enter Tryd.func10, Tryd.ntmps10
    go_wp2_with fail
    generalize w.alloc (.cells #[.int .i64 i] 3) = w0 at HB hlk c1 hc1 ⊢
    generalize w.heap.size = bx at hc1 ⊢
    go_quiet (fail)
    go_wp2_with fail
    go_ret
    exact ⟨rfl, Go.Proofs.YtjknojfdlpgicaaDoor.App.below_drewN HB.out _⟩
  · exact absurd hl h1

theorem stop_good (X : Nat → Prop) (b n : Nat) (left : Int → Nat) (i : Int) (w : World) (H : Wh X w b n left) (hl : left i ≠ 0) :
    Calls Tryd.prog 10 #[.pointer (some ⟨b, 0, none⟩), .int .i64 i] w fun e w' => e = .returned .nilIface ∧ Wh X w' b n (updZ left i 0) ∧ Keep X w w' := by
  have hi : (Lit.int .i64 i).wf = true := wf_id (by have := H.rng i hl; omega)
  obtain ⟨m, now, sv, q, h, hS, hI⟩ := H
  rcases left_key hI i with ⟨h1, h2⟩ | ⟨h1, _, _, s, hs4, hs, hk, _⟩
  · exact absurd h1 hl
  · have hmem : i ∈ q s := (hI.mem s hs4 i).2 ⟨h1, hs⟩
    have HI := Lib.hid (inv_stop hI hl hs)
    have hS0 := hS.below (balloc (brefl w) (.cells #[.int .i64 i] 3))
    have hcb := (Ints.one w i hi).2.2.2 (by simp)
    obtain ⟨b0, off0, e0, _, hc0⟩ := hcb
    injection e0 with e0
    injection e0 with e1 e2
    subst e1; subst e2
    have hc1 := hc0 0 (by simp)
    have hc1 : (w.alloc (.cells #[.int .i64 i] 3)).cell? ⟨w.heap.size, 0, none⟩ = some (.int .i64 i) := hc1
    have c1 := hS0.blk.cell 401 _ (cells_map m now sv)
    have hlk : ∀ k, (Instr.lookup 38 (.map (some m)) (.int .i64 i) true).run Tryd.prog ((w.alloc (.cells #[.int .i64 i] 3)).drewN k) = .ok (.tuple #[.int .i64 (s : Int), .bool true]) ((w.alloc (.cells #[.int .i64 i] 3)).drewN k) := fun k => by
      have := (hS0.drewN k).map.look_ok hi
      rw [hk] at this
      exact this
    have HK := Lib.hid ((Keep.refl X w).grown (World.grownBy_alloc w (.cells #[.int .i64 i] 3) none) (fun k _ => by simp) hS.xl)
    have hol : ∀ k, (sv s).ownBlock = some k → k < w.heap.size := fun k hk => ((hS.own s hs4).lt k hk).2
    have HXB := Lib.hid (show ¬ X w.heap.size from fun hx => by have := hS.xl _ hx; omega)
    have HBB := Lib.hid (show b < w.heap.size from hS.blk.lt)
    have HBM := Lib.hid (show m < w.heap.size from hS.map.lt)
    have HS0 := Lib.hid hS0
    have hbx : w.heap.size < (w.alloc (.cells #[.int .i64 i] 3)).heap.size := by simp
    clear hS hI h1 hl hS0 hs hk hc0
    go_enter Tryd.func10, Tryd.ntmps10
    go_wp2_with fail
    generalize w.alloc (.cells #[.int .i64 i] 3) = w0 at HK HS0 hlk c1 hc1 hbx ⊢
    generalize w.heap.size = bx at hc1 hbx hol HXB HBB HBM ⊢
    go_quiet (fail)
    have HS1 := Lib.hid (HS0.out.drewN nq)
    have HK1 := Lib.hid (HK.out.drewN nq)
    have hc2 : (w0.drewN nq).cell? ⟨bx, 0, none⟩ = some (.int .i64 i) := hc1
    have hbx1 : bx < (w0.drewN nq).heap.size := hbx
    clear hlk c1 hc1 hbx HS0 HK
    generalize w0.drewN nq = w1 at HS1 HK1 hc2 hbx1 ⊢
    obtain ⟨p0, cap0, e0, _⟩ := (HS1.out.own s hs4).form
    have ho1 := HS1.out.own s hs4
    rw [e0] at ho1
    obtain ⟨g, off, rfl, _, hr1⟩ := row_of ho1 (fun e => by rw [e] at hmem; cases hmem)
    have hbg : bx ≠ g := fun e => by
      have := hol g (by rw [e0]; rfl)
      omega
    have c2 := HS1.out.blk.cell s _ (cells_slot m now sv hs4)
    have f2 := HS1.out.blk.fz s
    rw [e0] at c2
    have hs5 : (s : Int) < 400 := by omega
    have HC2 := Lib.hid hc2
    have HD := Lib.hid (del_any bx i g off (q s).length cap0 (q s) w1.drew rfl hc2 hr1 hmem hbg hbx1)
    have HB1 := Lib.hid HS1.out.blk.drew
    have HNE := Lib.hid (fun e : some b = some g => (HS1.out.bs s hs4 g (by rw [e0]; rfl)).1 (Option.some.inj e).symm)
    have HE0 := Lib.hid e0
    have hcapl := hr1.caps
    generalize (q s).length = n0 at c2 HD HE0 hcapl
    clear hr1 ho1 e0 hc2
    go_wp2_with fail
    go_region_law (first
      | (go_simp
         go_at_call 16
         refine HD.out.mono ?_
         rintro e w3 ⟨rfl, hr3, hg3⟩
         have hb3 := HB1.out.more hg3 HNE.out
         have c3 := hb3.cell s _ (cells_slot m now sv hs4)
         have f3 := hb3.fz s
         have HR3 := Lib.hid hr3
         have HG3 := Lib.hid hg3
         clear hr3 hg3 hb3))
    all_goals
      have hsb : (sv s).ownBlock = some g := by rw [HE0.out]; rfl
      have hgw : w1.grownBy w3 (some g) := grown_from HG3.out
      have HS4 := Lib.hid (HS1.out.turn hs4 (w' := w3) (by rw [hsb]; exact hgw) (N := w1.heap.size) (Nat.le_refl _) (.inl (by rw [hsb]; rfl)) (HR3.out.own 0 (Nat.zero_le _)))
      have HK4 := Lib.hid ((HS1.out.keep_s HK1.out hs4 (by rw [hsb]; exact hgw)).grown (set_grown w3 b s (.slice (some ⟨g, off, none⟩) (drop1 (q s) i).length cap0)) (fun j hj e => HS1.out.xb (by injection e with e; exact e ▸ hj)) (fun j hj => Nat.lt_of_lt_of_le (HS1.out.xl j hj) hgw.size))
      have hc4 : (w3.setCell ⟨b, s, none⟩ (.slice (some ⟨g, off, none⟩) (drop1 (q s) i).length cap0)).cell? ⟨bx, 0, none⟩ = some (.int .i64 i) := by
        refine (World.cell?_of_block ?_).trans HC2.out
        have h2 := (set_grown w3 b s (.slice (some ⟨g, off, none⟩) (drop1 (q s) i).length cap0)).block bx (Nat.lt_of_lt_of_le hbx1 hgw.size) (fun e => by have := HBB.out; injection e with e; omega)
        exact h2.trans (hgw.block bx hbx1 (fun e => by injection e with e; exact hbg e))
      generalize w3.setCell ⟨b, s, none⟩ (.slice (some ⟨g, off, none⟩) (drop1 (q s) i).length cap0) = w4 at HS4 HK4 hc4 ⊢
      have c4 := HS4.out.blk.cell 401 _ (cells_map m now _)
      clear c2 c3 f2 f3 HB1 HNE HD HC2 HR3 HG3 hgw hsb
      go_wp2_with fail
      go_region_law (refine step_del rfl (.tmp 35) (.tmp 36) rfl (show Mz w4.drew m n h from HS4.out.map) i hi rfl rfl ?_
                     intro w5 hm5 hg5
                     have HM5 := Lib.hid hm5
                     have HG5 := Lib.hid hg5
                     clear hm5 hg5)
      all_goals
        go_wp2_with fail
        go_ret
        exact ⟨rfl, ⟨m, now, _, _, _, HS4.out.put HM5.out (grown_from HG5.out), HI.out⟩, HS4.out.keep_m HK4.out (grown_from HG5.out)⟩
end Go.Proofs.YtjknojfdlpgicaaDoor.Wheel
