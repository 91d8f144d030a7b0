/- The comparison of prefixes in package cidr. No statement is proved here. -/
import Derived.Test.YtapaglapngbbpaaCmp
import Derived.Deep.RegionHeld3
namespace Go.Proofs.Ytapaglapngbbpaa.Cidr
open Go.ChangeShapes Go.WideShapes Go.ChangeAt Go.RowKit Go.Sort Go.Proofs.Ytapaglapngbbpaa.Kit Go.Proofs.Ytapaglapngbbpaa.App Go.Proofs.Ytapaglapngbbpaa.Cells Go.Proofs.Ytapaglapngbbpaa.CidrMath
set_option linter.unusedVariables false
set_option maxRecDepth 20000

set_option maxHeartbeats 1000000 in
theorem closure_any (x y : Pfx) (W : World) :
    Calls Try.prog 37 #[.agg #[.int .i64 x.adr, .int .i64 x.len], .agg #[.int .i64 y.adr, .int .i64 y.len]] W fun e w' => e = .returned (.int .i64 (cf x y)) ∧ ∃ q os', w' = grow (W.drewN q) os' := by
  obtain ⟨x0, x1⟩ := x
  obtain ⟨y0, y1⟩ := y
  simp only
  have CC := Lib.hid (fun x y W' => compare_any x y W' _ rfl)
  have O := Lib.hid (fun g W' => or_any g (cmpI x0 y0) (cmpI x1 y1) W' _ rfl)
  show Calls _ _ _ _ fun e w' => e = .returned (.int .i64 (or2 (cmpI x0 y0) (cmpI x1 y1))) ∧ _
  generalize or2 (cmpI x0 y0) (cmpI x1 y1) = r at O ⊢
  have bx := (Box.new W ⟨x0, x1⟩ 24).below (balloc (brefl _) (.cells #[.int .i64 y0, .int .i64 y1] 24)) (by simp)
  have bx2 := Box.new (W.alloc (.cells #[.int .i64 x0, .int .i64 x1] 24)) ⟨y0, y1⟩ 24
  simp only [World.size_alloc] at bx bx2
  obtain ⟨bxl, c0, c1⟩ := bx
  obtain ⟨bxl2, c2, c3⟩ := bx2
  simp only at c0 c1 c2 c3
  go_enter Try.func37, Try.ntmps37
  go_wp2_with fail
  have hG : Gr W ((W.alloc (.cells #[.int .i64 x0, .int .i64 x1] 24)).alloc (.cells #[.int .i64 y0, .int .i64 y1] 24)) := ⟨0, _, by rw [alloc_eq_grow, alloc_eq_grow, grow_grow]; rfl⟩
  clear bxl bxl2
  generalize (W.alloc (.cells #[.int .i64 x0, .int .i64 x1] 24)).alloc (.cells #[.int .i64 y0, .int .i64 y1] 24) = w0 at c0 c1 c2 c3 hG ⊢
  generalize W.heap.size = n0 at c0 c1 c2 c3 ⊢
  have HG := Lib.hid hG
  clear hG
  go_region_held3 (fun W' => W'.cell? ⟨n0, 0, none⟩ = some (.int .i64 x0) ∧ W'.cell? ⟨n0, 1, none⟩ = some (.int .i64 x1) ∧ W'.cell? ⟨n0 + 1, 0, none⟩ = some (.int .i64 y0) ∧ W'.cell? ⟨n0 + 1, 1, none⟩ = some (.int .i64 y1))
    (first
      | exact ⟨c0, c1, c2, c3⟩
      | go_keep)
    (first
      | (go_at_call 30; refine (O.out _ _ (new0 _ _ _ _) (new1 _ _ _ _)).mono ?_; rintro e w3 ⟨rfl, rfl⟩)
      | (go_at_call 31; refine (CC.out _ _ _).mono ?_; rintro e w1 ⟨rfl, rfl⟩))
  go_wp2_with fail
  go_ret
  exact ⟨rfl, HG.out.trans ⟨1, _, by rw [alloc_eq_grow]; rfl⟩⟩
end Go.Proofs.Ytapaglapngbbpaa.Cidr
