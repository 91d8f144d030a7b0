/- Package lpm: Routes. No statement is proved here. -/
import Derived.Test.YtapaglapngbbpaaDoorLpmArr
namespace Go.Proofs.YtapaglapngbbpaaDoor.Lpm
open Go.ChangeShapes Go.WideShapes Go.ChangeAt Go.RowKit Go.Sort Go.Proofs.YtapaglapngbbpaaDoor.Kit Go.Proofs.YtapaglapngbbpaaDoor.App Go.Proofs.YtapaglapngbbpaaDoor.Cells Go.Proofs.YtapaglapngbbpaaDoor.Cidr Go.Proofs.YtapaglapngbbpaaDoor.CidrMath Go.Proofs.YtapaglapngbbpaaDoor.RouteMath Go.Proofs.YtapaglapngbbpaaDoor.Route
set_option linter.unusedVariables false
set_option maxRecDepth 20000

theorem cloneR_any (a : Addr) (n c : Nat) (l : List Rt) (w : World) (hn : n = l.length) (hc : CI layR w (some a) c l) (h40 : l.length ≤ 1000) :
    Calls Tryd.prog 21 #[.slice (some a) n c] w fun e w' => ∃ v, e = .returned v ∧ OC layR 38 w' w.heap.size v l ∧ Below w.heap.size w w' := by
  subst hn
  have q1 : ∀ (w : World) (a : Option Addr) (n c n' c' : Nat), (binOp .eql 26 (.slice a n c) (.slice none n' c')).run Tryd.prog w = .ok (.bool a.isNone) w := fun w a n c n' c' => Lib.run_eql_slice_nil w _ _ a n c n' c' Tryd.underlying26
  have hown : OC layR 38 (w.alloc (.cells #[] 38)) w.heap.size (.slice (some ⟨w.heap.size, 0, none⟩) 0 0) [] := World.ownsRow_made w #[] 0 (Nat.le_refl _) (Nat.zero_le _) (by simp)
  go_enter Tryd.func21, Tryd.ntmps21
  go_wp2_with (at_builtin
               refine wp_appC tyR rfl (.tmp 5) (.tmp 6) rfl w.heap.size _ [] (some a) c l.length l rfl hown rfl rfl (hc.below (balloc (brefl w) _)) (by simp; omega) (by simp) ?_
               intro v1 wa hown1 hg1 hat1
               have hb1 : Below w.heap.size w wa := below_appC (balloc (brefl w) _) hown hg1 (by simp)
               clear hat1 hg1)
  go_ret
  exact ⟨_, rfl, by simpa using hown1, hb1⟩
set_option maxHeartbeats 1000000 in
theorem tabRoutes_any (g n : Nat) (l : List Rt) (w : World) (hn : n = l.length) (hT : Tab w g l) :
    Calls Tryd.prog 8 #[.pointer (some ⟨g, 0, none⟩)] w fun e w' => ∃ v, e = .returned v ∧ OC layR 38 w' w.heap.size v l ∧ Below w.heap.size w w' := by
  have h32 : n ≤ 32 := by rw [hn]; exact hT.len
  have c96 := hT.count
  rw [← hn] at c96
  have CL := Lib.hid (fun W (h : Tab W g l) => cloneR_any ⟨g, 0, none⟩ n 32 l W hn h.ci (by rw [← hn]; omega))
  have sl := arr_h g n h32
  clear hn
  go_enter Tryd.func8, Tryd.ntmps8
  go_wp2_with fail
  go_region_held3 (fun W' => W'.cell? ⟨g, 96, none⟩ = some (.int .i64 (n : Int)) ∧ Tab W' g l)
    (first
      | exact ⟨c96, hT⟩
      | exact ⟨(hB3.cell (p := ⟨g, 96, none⟩) hT.lt).trans c96, (show Tab w.drew g l from hT).below hB3 hT.lt⟩
      | go_keep)
    (first
      | (go_at_call 21; refine (CL.out w.drew hT).mono ?_; rintro e w3 ⟨v3, rfl, hO3, hB3⟩))
  go_wp2_with fail
  go_ret
  exact ⟨_, rfl, hO3, (brefl w).drew.trans hB3⟩

end Go.Proofs.YtapaglapngbbpaaDoor.Lpm
