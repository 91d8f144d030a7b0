/- A list and one more behind it (part one's Behind). General. No statement is proved here. -/
import Derived.Test.YtcleanjacijfoaaDoorSub
namespace Go.Proofs.YtcleanjacijfoaaDoor.App
open Go.ChangeShapes Go.WideShapes Go.ChangeAt Go.RowKit Go.Proofs.YtcleanjacijfoaaDoor.Kit
set_option linter.unusedVariables false
set_option maxRecDepth 20000

theorem behind_own (p : Option Addr) (cap n : Nat) (l : List Int) (x : Int) (w : World) (hn : n = l.length) (h : Ints w p cap l) (hl : l.length ≤ 100000) (hx : (Lit.int .i64 x).wf = true) :
    Calls Tryd.prog 21 #[.slice p n cap, .int .i64 x] w fun e w' => ∃ g c, e = .returned (.slice (some ⟨g, 0, none⟩) (n + 1) c) ∧ OwnI w' w.heap.size (.slice (some ⟨g, 0, none⟩) (n + 1) c) (l ++ [x]) ∧ w.heap.size ≤ g ∧ Below w.heap.size w w' := by
  subst hn
  go_enter Tryd.func21, Tryd.ntmps21
  go_wp2_with (first
    | (at_builtin
       refine wp_app rfl (.tmp 6) (.tmp 7) rfl w.heap.size (.slice none 0 0) [] p cap l.length l rfl (OwnI.nil _ _) rfl rfl h (by simp; omega) (Nat.le_refl _) ?_
       intro v1 w1 hown1 hg1 hat1
       rw [List.nil_append] at hown1
       have hb1 : Below w.heap.size w w1 := below_app (Below.refl _ _) (OwnI.nil w w.heap.size) hg1 (Nat.le_refl _))
    | (at_builtin
       refine wp_app rfl (.tmp 9) (.tmp 11) rfl w.heap.size v1 l (some ⟨w1.heap.size, 0, none⟩) 1 1 [x] rfl (hown1.alloc _) rfl rfl (Ints.one w1 x hx) (by simp; omega) (Nat.le_trans hb1.size (by simp)) ?_
       intro v2 w2 hown2 hg2 hat2))
  go_ret
  have hb2 := below_app (hb1.alloc hb1.size _) (hown1.alloc _) hg2 (Nat.le_trans hb1.size (by simp))
  have hlt := hown2.lt
  have h0 := hown2
  obtain ⟨⟨_, ⟨_, hz⟩ | ⟨g, c, cur, rfl, hb, _⟩⟩, _⟩ := h0
  · simp at hz
  · rw [List.length_append] at hown2 ⊢
    exact ⟨g, c, rfl, hown2, hb, hb2⟩
end Go.Proofs.YtcleanjacijfoaaDoor.App
