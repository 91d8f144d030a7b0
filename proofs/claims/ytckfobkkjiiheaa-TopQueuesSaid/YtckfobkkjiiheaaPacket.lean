/- Packets: how they lie in memory; the comparison of package rounds. No statement is proved here. -/
import Derived.Test.YtckfobkkjiiheaaRoundsMath
import Derived.Test.YtckfobkkjiiheaaCmpI
import Derived.Test.YtckfobkkjiiheaaCells
import Derived.ChangeMaps5
import Derived.BigQuiet
import Derived.RegionTactic
namespace Go.Proofs.Ytckfobkkjiiheaa.Rounds
open Go.ChangeShapes Go.WideShapes Go.ChangeAt Go.RowKit Go.Sort Go.Proofs.Ytckfobkkjiiheaa.Kit Go.Proofs.Ytckfobkkjiiheaa.App Go.Proofs.Ytckfobkkjiiheaa.Cells Go.Proofs.Ytckfobkkjiiheaa.Cmp
set_option linter.unusedVariables false
set_option maxRecDepth 20000

def lay : Lay Pk := ⟨fun x => [.int .i64 x.num, .int .i64 x.size, .int .i64 x.rnd], 3, by decide, fun _ => rfl, fun x v hv => by
  simp only [List.mem_cons, List.not_mem_nil, or_false] at hv
  rcases hv with rfl | rfl | rfl <;> rfl⟩
theorem ty : Ty lay 56 60 24 := ⟨Try.underlying56, by
  have h : (Try.prog.info? 60).map (fun i => (i.zero, i.size, i.bytes)) = some (some (.agg #[.int .i64 0, .int .i64 0, .int .i64 0]), 3, 24) := by kernel_rfl
  obtain ⟨i, hi, hz⟩ := Option.map_eq_some_iff.1 h
  simp only [Prod.mk.injEq] at hz
  exact ⟨i, _, hi, hz.1, hz.2.1, hz.2.2, rfl⟩, by decide⟩
/-- A packet in a block. -/
def Box (w : World) (g : Nat) (x : Pk) : Prop := g < w.heap.size ∧ w.cell? ⟨g, 0, none⟩ = some (.int .i64 x.num) ∧ w.cell? ⟨g, 1, none⟩ = some (.int .i64 x.size) ∧ w.cell? ⟨g, 2, none⟩ = some (.int .i64 x.rnd)
theorem Box.new (w : World) (x : Pk) (t : TypeId) : Box (w.alloc (.cells #[.int .i64 x.num, .int .i64 x.size, .int .i64 x.rnd] t)) w.heap.size x := by
  have h : (w.alloc (.cells #[.int .i64 x.num, .int .i64 x.size, .int .i64 x.rnd] t)).heap[w.heap.size]? = some (.cells #[.int .i64 x.num, .int .i64 x.size, .int .i64 x.rnd] t) := alloc_new w _
  refine ⟨by simp, ?_, ?_, ?_⟩ <;> (unfold World.cell?; rw [h]; rfl)
theorem Box.below {w w' : World} {g B : Nat} {x : Pk} (h : Box w g x) (hb : Below B w w') (hg : g < B) : Box w' g x := by
  have hk : w'.heap[g]? = w.heap[g]? := hb.block g hg
  refine ⟨Nat.lt_of_lt_of_le h.1 hb.size, ?_, ?_, ?_⟩
  · exact (World.cell?_of_block (w := w) (a := ⟨g, 0, none⟩) hk).trans h.2.1
  · exact (World.cell?_of_block (w := w) (a := ⟨g, 1, none⟩) hk).trans h.2.2.1
  · exact (World.cell?_of_block (w := w) (a := ⟨g, 2, none⟩) hk).trans h.2.2.2
theorem Box.more {w w' : World} {g b : Nat} {x : Pk} (h : Box w g x) (hg : w.grownBy w' (some b)) (hne : g ≠ b) : Box w' g x := by
  have hk : w'.heap[g]? = w.heap[g]? := hg.block g h.1 (by simpa using hne)
  refine ⟨Nat.lt_of_lt_of_le h.1 hg.size, ?_, ?_, ?_⟩
  · exact (World.cell?_of_block (w := w) (a := ⟨g, 0, none⟩) hk).trans h.2.1
  · exact (World.cell?_of_block (w := w) (a := ⟨g, 1, none⟩) hk).trans h.2.2.1
  · exact (World.cell?_of_block (w := w) (a := ⟨g, 2, none⟩) hk).trans h.2.2.2
theorem new0 (w : World) (x y : Int) (t : TypeId) : (w.alloc (.cells #[.int .i64 x, .int .i64 y] t)).drew.cell? ⟨w.heap.size, 0, none⟩ = some (.int .i64 x) := by
  have h : (w.alloc (.cells #[.int .i64 x, .int .i64 y] t)).heap[w.heap.size]? = some (.cells #[.int .i64 x, .int .i64 y] t) := alloc_new w _
  show (w.alloc (.cells #[.int .i64 x, .int .i64 y] t)).cell? ⟨w.heap.size, 0, none⟩ = _
  unfold World.cell?; rw [h]; rfl
theorem new1 (w : World) (x y : Int) (t : TypeId) : (w.alloc (.cells #[.int .i64 x, .int .i64 y] t)).drew.cell? ⟨w.heap.size, 1, none⟩ = some (.int .i64 y) := by
  have h : (w.alloc (.cells #[.int .i64 x, .int .i64 y] t)).heap[w.heap.size]? = some (.cells #[.int .i64 x, .int .i64 y] t) := alloc_new w _
  show (w.alloc (.cells #[.int .i64 x, .int .i64 y] t)).cell? ⟨w.heap.size, 1, none⟩ = _
  unfold World.cell?; rw [h]; rfl
def cf (x y : Pk) : Int := or2 (cmpI x.rnd y.rnd) (cmpI x.num y.num)
theorem cf_neg (x y : Pk) : cf x y < 0 ↔ Bf x y := by
  unfold cf or2 Bf
  have h1 := cmpI_neg x.rnd y.rnd
  have h2 := cmpI_zero x.rnd y.rnd
  have h3 := cmpI_neg x.num y.num
  split <;> omega
set_option maxHeartbeats 1000000 in
theorem closure_any (x y : Pk) (W : World) :
    Calls Try.prog 36 #[.agg #[.int .i64 x.num, .int .i64 x.size, .int .i64 x.rnd], .agg #[.int .i64 y.num, .int .i64 y.size, .int .i64 y.rnd]] W fun e w' => e = .returned (.int .i64 (cf x y)) ∧ ∃ q os', w' = grow (W.drewN q) os' := by
  obtain ⟨x0, xs, x1⟩ := x
  obtain ⟨y0, ys, y1⟩ := y
  simp only
  have CC := Lib.hid (fun x y W' => compare_any x y W' _ rfl)
  have O := Lib.hid (fun g W' => or_any g (cmpI x1 y1) (cmpI x0 y0) W' _ rfl)
  show Calls _ _ _ _ fun e w' => e = .returned (.int .i64 (or2 (cmpI x1 y1) (cmpI x0 y0))) ∧ _
  generalize or2 (cmpI x1 y1) (cmpI x0 y0) = r at O ⊢
  have bx := (Box.new W ⟨x0, xs, x1⟩ 60).below (balloc (brefl _) (.cells #[.int .i64 y0, .int .i64 ys, .int .i64 y1] 60)) (by simp)
  have bx2 := Box.new (W.alloc (.cells #[.int .i64 x0, .int .i64 xs, .int .i64 x1] 60)) ⟨y0, ys, y1⟩ 60
  simp only [World.size_alloc] at bx bx2
  obtain ⟨bxl, c0, _, c1⟩ := bx
  obtain ⟨bxl2, c2, _, c3⟩ := bx2
  simp only at c0 c1 c2 c3
  go_enter Try.func36, Try.ntmps36
  go_wp2_with fail
  have hG : Gr W ((W.alloc (.cells #[.int .i64 x0, .int .i64 xs, .int .i64 x1] 60)).alloc (.cells #[.int .i64 y0, .int .i64 ys, .int .i64 y1] 60)) := ⟨0, _, by rw [alloc_eq_grow, alloc_eq_grow, grow_grow]; rfl⟩
  clear bxl bxl2
  generalize (W.alloc (.cells #[.int .i64 x0, .int .i64 xs, .int .i64 x1] 60)).alloc (.cells #[.int .i64 y0, .int .i64 ys, .int .i64 y1] 60) = w0 at c0 c1 c2 c3 hG ⊢
  generalize W.heap.size = n0 at c0 c1 c2 c3 ⊢
  have HG := Lib.hid hG
  clear hG
  go_region_held3 (fun W' => W'.cell? ⟨n0, 0, none⟩ = some (.int .i64 x0) ∧ W'.cell? ⟨n0, 2, none⟩ = some (.int .i64 x1) ∧ W'.cell? ⟨n0 + 1, 0, none⟩ = some (.int .i64 y0) ∧ W'.cell? ⟨n0 + 1, 2, none⟩ = some (.int .i64 y1))
    (first
      | exact ⟨c0, c1, c2, c3⟩
      | go_keep)
    (first
      | (go_at_call 37; refine (O.out _ _ (new0 _ _ _ _) (new1 _ _ _ _)).mono ?_; rintro e w3 ⟨rfl, rfl⟩)
      | (go_at_call 38; refine (CC.out _ _ _).mono ?_; rintro e w1 ⟨rfl, rfl⟩))
  go_wp2_with fail
  go_ret
  exact ⟨rfl, HG.out.trans ⟨1, _, by rw [alloc_eq_grow]; rfl⟩⟩
end Go.Proofs.Ytckfobkkjiiheaa.Rounds
