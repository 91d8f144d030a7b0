/- Part one's Set: a number in a list that is new. General. No statement is proved here. -/
import Derived.Test.YtcleanjacijfoaaDoorOwnI
namespace Go.Proofs.YtcleanjacijfoaaDoor.App
open Go.ChangeShapes Go.WideShapes Go.ChangeAt Go.RowKit Go.Proofs.YtcleanjacijfoaaDoor.Kit Go.Proofs.YtcleanjacijfoaaDoor.Err
set_option linter.unusedVariables false
set_option maxRecDepth 20000

theorem set_list (p : Option Addr) (cap n : Nat) (l : List Int) (i : Nat) (x : Int) (w : World) (hn : n = l.length) (h : Ints w p cap l) (hl : l.length ≤ 700) (hi : i < n) (hx : (Lit.int .i64 x).wf = true) :
    Calls Tryd.prog 22 #[.slice p n cap, .int .i64 (i : Int), .int .i64 x] w fun e w' => ∃ g c, e = .returned (.slice (some ⟨g, 0, none⟩) n c) ∧ OwnI w' w.heap.size (.slice (some ⟨g, 0, none⟩) n c) (l.set i x) ∧ w.heap.size ≤ g ∧ Below w.heap.size w w' := by
  subst hn
  have hin : (i : Int) < (l.length : Int) := by omega
  have HI := Lib.hid h
  have hlen := h.len_le
  go_enter Tryd.func22, Tryd.ntmps22
  go_wp2_with (first
    | (at_builtin
       refine wp_app rfl (.tmp 8) (.tmp 9) rfl w.heap.size (.slice none 0 0) [] p cap l.length l rfl (OwnI.nil _ _) rfl rfl HI.out (by simp; omega) (Nat.le_refl _) ?_
       intro v1 w1 hown1 hg1 hat1
       rw [List.nil_append] at hown1
       have HB1 := Lib.hid (below_app (Below.refl _ _) (OwnI.nil w w.heap.size) hg1 (Nat.le_refl _))
       obtain ⟨g, c, hv, hbg, hgl, hlc, hcm⟩ := own_pos hown1 (by omega)
       subst hv
       have hcell := own_cell hown1 i hi
       have hfz := own_fz hown1 i
       have HO := Lib.hid (own_set hown1 i x hx)
       have HG := Lib.hid hbg
       clear hg1 hat1 hown1))
  go_ret
  exact ⟨g, c, rfl, HO.out, HG.out, gbelow HB1.out (Nat.le_refl _) (set_grown _ g i _) HG.out⟩
end Go.Proofs.YtcleanjacijfoaaDoor.App
