/- Part one's Rising, of nothing too. No statement is proved here. -/
import Derived.Test.YtlojehakifagbaaDoorRiseAll
namespace Go.Proofs.YtlojehakifagbaaDoor.Rising
open Go.ChangeShapes Go.WideShapes Go.ChangeAt Go.RowKit Go.Proofs.YtlojehakifagbaaDoor.Kit Go.Proofs.YtlojehakifagbaaDoor.App
set_option linter.unusedVariables false
set_option maxRecDepth 20000
set_option maxHeartbeats 1000000

theorem rising_nil (p : Option Addr) (cap : Nat) (w : World) :
    Calls Tryd.prog 19 #[.slice p 0 cap] w fun e w' => e = .returned (.slice none 0 0) ∧ Below w.heap.size w w' := by
  obtain ⟨w1, hm, hou, hg1⟩ := made w 0 (by omega)
  have HB := Lib.hid (show Below w.heap.size w w1 from ⟨hg1.os, hg1.tape, hg1.output, hg1.size, fun k hk => hg1.block k hk (by simp)⟩)
  have hm : (Instr.makeSlice 69 (.int .i64 0) (.int .i64 0)).run Tryd.prog w = .ok (.slice (some ⟨w.heap.size, 0, none⟩) 0 0) w1 := hm
  clear hou hg1
  go_enter Tryd.func19, Tryd.ntmps19
  go_wp2_with fail
  refine wp_loop_rounds 1 ?_
  rw [rounds_succ]
  go_wp2_with fail
  go_ret
  exact ⟨rfl, HB.out⟩
theorem rise_any (p : Option Addr) (cap n : Nat) (l : List Int) (w : World) (hn : n = l.length) (hi : Ints w p cap l) (h1000 : n ≤ 1000) :
    Calls Tryd.prog 19 #[.slice p n cap] w fun e w' => (∃ q c, e = .returned (.slice q n c) ∧ OwnI w' w.heap.size (.slice q n c) (srt l)) ∧ Below w.heap.size w w' := by
  rcases Nat.eq_zero_or_pos n with h0 | h0
  · subst h0
    have e : l = [] := List.eq_nil_of_length_eq_zero hn.symm
    subst e
    refine (rising_nil p cap w).mono ?_
    rintro e w' ⟨rfl, hb⟩
    exact ⟨⟨none, 0, rfl, by unfold srt; simp; exact OwnI.nil _ _⟩, hb⟩
  · exact rising_srt p cap n l w hn hi h0 h1000
end Go.Proofs.YtlojehakifagbaaDoor.Rising
