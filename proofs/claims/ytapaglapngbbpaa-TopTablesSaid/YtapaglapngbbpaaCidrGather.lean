/- The contracts of cidr.gather and of what it returns. No statement is proved here. -/
import Derived.Test.YtapaglapngbbpaaCidrSt
namespace Go.Proofs.Ytapaglapngbbpaa.Cidr
open Go.ChangeShapes Go.WideShapes Go.ChangeAt Go.RowKit Go.Sort Go.Proofs.Ytapaglapngbbpaa.Kit Go.Proofs.Ytapaglapngbbpaa.App Go.Proofs.Ytapaglapngbbpaa.Cells Go.Proofs.Ytapaglapngbbpaa.CidrMath
set_option linter.unusedVariables false
set_option maxRecDepth 20000

theorem gather_any (w : World) :
    Calls Try.prog 24 #[] w fun e w' => ∃ gb, e = .returned (.tuple #[.func (.func 32) #[] #[.pointer (some ⟨gb, 0, none⟩)], .func (.func 34) #[] #[.pointer (some ⟨gb, 0, none⟩)]]) ∧ (w.heap.size ≤ gb ∧ ∀ base, gb < base → St w' base gb (.slice none 0 0) []) ∧ Below w.heap.size w w' := by
  go_enter Try.func24, Try.ntmps24
  go_wp2_with fail
  go_ret2
  refine ⟨_, rfl, ⟨Nat.le_refl _, fun base hb => ⟨OC.nil _ _ _ _, ?_, ?_, by simp [Value.ownBlock], hb, by simp⟩⟩, balloc (brefl w) _⟩
  · go_simp
  · go_simp
theorem fewest_cell (w : World) (base gb : Nat) (v : Value) (L : List Pfx) (S : St w base gb v L) :
    Calls Try.prog 34 #[.pointer (some ⟨gb, 0, none⟩)] w fun e w' => e = .returned v ∧ w' = w := by
  obtain ⟨q, c, rfl, hCI⟩ := S.own.form
  have c0 := S.cell
  clear S hCI
  go_enter Try.func34, Try.ntmps34
  go_wp2_with fail
  go_ret
  exact ⟨rfl, rfl⟩

set_option maxHeartbeats 2000000 in
theorem add_skip (p y : Pfx) (w : World) (base gb : Nat) (v : Value) (L0 P : List Pfx) (S : St w base gb v (L0 ++ [y])) (I : Inv P (L0 ++ [y])) (hp : CidrMath.Good p) (hlen : P.length ≤ 32) (hin : y.adr ≤ p.adr ∧ p.adr < y.adr + siz y) :
    Calls Try.prog 32 #[.agg #[.int .i64 p.adr, .int .i64 p.len], .pointer (some ⟨gb, 0, none⟩)] w fun e w' => e = .returned (.tuple #[]) ∧ Gr w w' := by
  have gy := I.good y (by simp)
  obtain ⟨d, j, hj, hyb, hyb2⟩ := good_mem gy
  obtain ⟨b, hb, hpb⟩ := good_adr hp
  have hb2 := good_lt hp hpb
  have hl16 : y.len = 16 - (j : Int) := by rw [hyb]; rfl
  have hya : 0 ≤ y.adr ∧ y.adr ≤ 65535 := by
    have : y.adr = ((d * 2 ^ j : Nat) : Int) := by rw [hyb]; rfl
    have := pow_pos' j
    omega
  have hzz : siz y = 2 ^ j := by rw [hyb]; exact siz_blk _ j
  have CO := Lib.hid (fun W => comprises_any y j hj hl16 p.adr hya ⟨by omega, by omega⟩ W true (by rw [← hzz]; exact ⟨fun _ => hin, fun _ => rfl⟩))
  unfold val at CO
  have hll := I.len
  rw [List.length_append, List.length_singleton] at hll
  obtain ⟨g, cap, rfl, hgb, hgl, hcl, hcm⟩ := oc_some S.own (by simp)
  have S1 := S.below (balloc (brefl w) (.cells #[.int .i64 p.adr, .int .i64 p.len] 24))
  obtain ⟨m, hm⟩ : ∃ m, L0.length = m := ⟨_, rfl⟩
  rw [List.length_append, List.length_singleton, hm] at S1 hcl
  obtain ⟨y0, y1, _⟩ := oc_at S1.own (by simp [hm]) m y (by rw [List.getElem?_append_right (by omega), hm]; simp)
  have c0 := S1.cell
  have hbl := S1.b.2
  have B0 := Box.new w p 24
  have hgl1 : g < (w.alloc (.cells #[.int .i64 p.adr, .int .i64 p.len] 24)).heap.size := by simp; omega
  have g0 := fun n os => (Box.grown B0 n os).1
  have gy0 := fun n os => cell_grown (a := ⟨g, m * 2, none⟩) hgl1 y0 n os
  have gy1 := fun n os => cell_grown (a := ⟨g, m * 2 + 1, none⟩) hgl1 y1 n os
  have gc := fun n os => cell_grown (a := ⟨gb, 0, none⟩) hbl c0 n os
  have hcg := fun n os => CO.out (grow ((w.alloc (.cells #[.int .i64 p.adr, .int .i64 p.len] 24)).drewN n) os)
  have hmix := mixed
  have t0 : decide ((m : Int) + 1 > 0) = true := decide_eq_true (by omega)
  have t0' : decide (0 < (m : Int) + 1) = true := decide_eq_true (by omega)
  have i0 : (0 : Int) ≤ (m : Int) := by omega
  have i1 : (m : Int) < (m : Int) + 1 := by omega
  have r1 : IntKind.i64.wrap ((m : Int) + 1 - 1) = (m : Int) := by rw [IntKind.wrap_i64]; omega
  have r0 : IntKind.i64.wrap (m : Int) = (m : Int) := by rw [IntKind.wrap_i64]; omega
  have r2 : IntKind.i64.wrap ((m : Int) + 1) = (m : Int) + 1 := by rw [IntKind.wrap_i64]; omega
  clear S S1 I hp hin gy hyb hyb2 hb hpb hl16 hya hzz CO B0 y0 y1 hbl hgl1 hm hcl hll
  go_enter Try.func32, Try.ntmps32
  go_wp2_with fail
  refine wp_region_quiet_grown (by assumption) (by kernel_rfl) ?_
  repeat (first | go_big_quiet_skip | quiet_step (refine Calls.grown_of (hcg _ _)))
  refine wpQuiet_nil ?_
  intro _ hw'
  obtain ⟨⟨nq, osq⟩, hw''⟩ := hw'
  subst hw''
  go_wp2_with fail
  refine bodyPost_ret (results_none rfl _ _ _) rfl ?_
  exact ⟨rfl, _, _, by rw [alloc_eq_grow, drewN_grow_grow]⟩
end Go.Proofs.Ytapaglapngbbpaa.Cidr
