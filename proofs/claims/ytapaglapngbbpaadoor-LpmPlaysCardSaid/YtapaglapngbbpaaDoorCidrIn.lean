/- Contracts of the document's Power and In of prefixes. No statement is proved here. -/
import Derived.Test.YtapaglapngbbpaaDoorRPower
import Derived.Test.YtapaglapngbbpaaDoorCidr1
namespace Go.Proofs.YtapaglapngbbpaaDoor.Cidr
open Go.ChangeShapes Go.WideShapes Go.ChangeAt Go.RowKit Go.Sort Go.Proofs.YtapaglapngbbpaaDoor.Kit Go.Proofs.YtapaglapngbbpaaDoor.App Go.Proofs.YtapaglapngbbpaaDoor.Cells Go.Proofs.YtapaglapngbbpaaDoor.CidrMath
set_option linter.unusedVariables false
set_option maxRecDepth 20000

theorem power_any (k : Nat) (hk : k ≤ 16) (w : World) (z : Int) (hz : z = (k : Int)) (R : Nat) (hR : R = 2 ^ k) : Calls Tryd.prog 28 #[.int .i64 z] w fun e w' => e = .returned (.int .i64 R) ∧ w' = w := by
  subst hz
  exact (rpower k (k : Int) rfl (by omega) w R hR).mono fun e w' ⟨h1, h2⟩ => ⟨h1, h2.symm⟩
set_option maxHeartbeats 1000000 in
theorem rIn_any (x : Pfx) (hx : CidrMath.Good x) (y : Int) (hy : 0 ≤ y ∧ y ≤ 65535) (w : World) (R : Bool) (hR : R = true ↔ x.adr ≤ y ∧ y < x.adr + siz x) :
    Calls Tryd.prog 13 #[.agg #[.int .i64 x.adr, .int .i64 x.len], .int .i64 y] w fun e w' => e = .returned (.bool R) ∧ ∃ q os', w' = grow (w.drewN q) os' := by
  obtain ⟨d, j, hj, hxb, hxb2⟩ := good_mem hx
  have hl : x.len = 16 - (j : Int) := by rw [hxb]; rfl
  have h0 : 0 ≤ x.adr ∧ x.adr ≤ 65535 := by
    have : x.adr = ((d * 2 ^ j : Nat) : Int) := by rw [hxb]; rfl
    have := pow_pos' j
    omega
  have hzz : siz x = 2 ^ j := by rw [hxb]; exact siz_blk _ j
  rw [hzz] at hR
  obtain ⟨a, l⟩ := x
  simp only at hl h0 hR ⊢
  obtain ⟨z, hz⟩ : ∃ z, 2 ^ j = z := ⟨_, rfl⟩
  have hz2 : z ≤ 65536 := by rw [← hz]; exact Nat.le_trans (Nat.pow_le_pow_right (by omega) hj) (by omega)
  have PW := Lib.hid (fun W => (power_any j hj W (16 - l) (by omega) z hz.symm).mono (R' := fun e w' => e = .returned (.int .i64 z) ∧ ∃ q os', w' = grow (W.drewN q) os') fun e w' ⟨h1, h2⟩ => ⟨h1, 0, #[], by rw [grow_empty, h2]; rfl⟩)
  have hwk : IntKind.i64.wrap (16 - l) = 16 - l := by rw [IntKind.wrap_i64]; omega
  rw [hz] at hR
  have hws : IntKind.i64.wrap (a + (z : Int)) = a + (z : Int) := by rw [IntKind.wrap_i64]; omega
  have B0 := Box.new w ⟨a, l⟩ 36
  simp only at B0
  have g0 := fun n os => (Box.grown B0 n os).1
  have g1 := fun n os => (Box.grown B0 n os).2
  simp only at g0 g1
  have hcg := fun n os => PW.out (grow ((w.alloc (.cells #[.int .i64 a, .int .i64 l] 36)).drewN n) os)
  have hmix := mixed
  clear B0 hx hxb hxb2 hzz hz hl PW
  by_cases h1 : a ≤ y
  · have t1 : decide (y ≥ a) = true := decide_eq_true h1
    have t1' : decide (a ≤ y) = true := decide_eq_true h1
    have t2 : decide (y < a + (z : Int)) = R := by
      cases R with
      | true => exact decide_eq_true (hR.1 rfl).2
      | false => exact decide_eq_false (fun h => by have := hR.2 ⟨h1, h⟩; simp at this)
    clear hR
    go_enter Tryd.func13, Tryd.ntmps13
    go_wp2_with fail
    refine wp_region_quiet_grown (by assumption) (by kernel_rfl) ?_
    repeat (first | go_big_quiet_step (refine Calls.grown_of (hcg _ _)) | quiet_step (refine Calls.grown_of (hcg _ _)))
    refine wpQuiet_nil ?_
    intro _ hw'
    obtain ⟨⟨nq, osq⟩, hw''⟩ := hw'
    subst hw''
    go_wp2_with fail
    go_ret
    exact ⟨rfl, _, _, by rw [alloc_eq_grow, drewN_grow_grow]⟩
  · have t1 : decide (y ≥ a) = false := decide_eq_false h1
    have t1' : decide (a ≤ y) = false := decide_eq_false h1
    have hc : R = false := by
      cases R
      · rfl
      · have := hR.1 rfl; omega
    clear hR
    subst hc
    go_enter Tryd.func13, Tryd.ntmps13
    go_wp2_with fail
    refine wp_region_quiet_grown (by assumption) (by kernel_rfl) ?_
    repeat (first | go_big_quiet_step (refine Calls.grown_of (hcg _ _)) | quiet_step (refine Calls.grown_of (hcg _ _)))
    refine wpQuiet_nil ?_
    intro _ hw'
    obtain ⟨⟨nq, osq⟩, hw''⟩ := hw'
    subst hw''
    go_wp2_with fail
    go_ret
    exact ⟨rfl, _, _, by rw [alloc_eq_grow, drewN_grow_grow]⟩

end Go.Proofs.YtapaglapngbbpaaDoor.Cidr
