/- The contract of Rising of the document's answers: its first and its last. No statement is proved here. -/
import Derived.Test.YtlojehakifagbaaDoorRiseMath
import Derived.Test.YtlojehakifagbaaDoorSub
import Derived.Test.YtlojehakifagbaaDoorErr
import Derived.Laws.OwnMore
namespace Go.Proofs.YtlojehakifagbaaDoor.Rising
open Go.ChangeShapes Go.WideShapes Go.ChangeAt Go.RowKit Go.Proofs.YtlojehakifagbaaDoor.Kit Go.Proofs.YtlojehakifagbaaDoor.App Go.Proofs.YtlojehakifagbaaDoor.Err Go.Proofs.YtlojehakifagbaaDoor.AimdMath Go.Proofs.YtlojehakifagbaaDoor.RiseMath
set_option linter.unusedVariables false
set_option maxRecDepth 20000

theorem info_bool : (Tryd.prog.info? 4).map (fun i => (i.zero, i.size, i.bytes)) = some (some (.bool false), 1, 1) := by kernel_rfl
/-- A slice of truths of the call's own. -/
def OwnB (w : World) (g n : Nat) (u : List Bool) : Prop := u.length = n ∧ w.ownsRow 0 4 1 (.slice (some ⟨g, 0, none⟩) n n) n (u.map Value.bool)
variable {w w' : World} {g n : Nat} {u : List Bool}
theorem OwnB.cell (h : OwnB w g n u) (k : Nat) (b : Bool) (hk : u[k]? = some b) : w.cell? ⟨g, k, none⟩ = some (.bool b) := by
  have hlt : k < u.length := by
    rcases Nat.lt_or_ge k u.length with h | h
    · exact h
    · rw [List.getElem?_eq_none h] at hk; cases hk
  have := World.ownsRow.cellAt h.2 k (by have := h.1; omega)
  rw [this, List.getElem?_map, hk]; rfl
theorem OwnB.fz (h : OwnB w g n u) (k : Nat) : w.frozen? ⟨g, k, none⟩ = false := World.ownsRow.frozenAt h.2 k
theorem OwnB.lt (h : OwnB w g n u) : g < w.heap.size := (World.ownsRow.lt h.2 g rfl).2
theorem OwnB.more {row : Option Nat} (h : OwnB w g n u) (hg : w.grownBy w' row) (hne : some g ≠ row) : OwnB w' g n u := ⟨h.1, World.ownsRow.kept h.2 hg (.inr hne)⟩
theorem OwnB.set (h : OwnB w g n u) (k : Nat) (b : Bool) : OwnB (w.setCell ⟨g, k, none⟩ (.bool b)) g n (u.set k b) :=
  ⟨by rw [List.length_set]; exact h.1, by rw [List.map_set]; exact (World.ownsRow.stored h.2 k (.bool b)).1⟩
theorem made (w : World) (n : Nat) (hn : n ≤ 1000) : ∃ w', (Instr.makeSlice 69 (.int .i64 (n : Int)) (.int .i64 (n : Int))).run Tryd.prog w = .ok (.slice (some ⟨w.heap.size, 0, none⟩) n n) w' ∧ OwnB w' w.heap.size n (List.replicate n false) ∧ w.grownBy w' none := by
  obtain ⟨i, hi, hz⟩ := Option.map_eq_some_iff.1 info_bool
  simp only [Prod.mk.injEq] at hz
  obtain ⟨w', h1, h2, h3⟩ := run_makeSlice_full (P := Tryd.prog) (w := w) 0 69 4 i (.bool false) 1 Tryd.underlying69 hi hz.1 hz.2.1 .i64 .i64 n (by omega) (by rw [hz.2.2]; omega) (by unfold maxLen; omega) (Nat.zero_le _)
  refine ⟨w', h1, ⟨List.length_replicate, ?_⟩, h3⟩
  have e2 : (madeCells (Value.cells (.bool false)) (n * 1)).toList = List.replicate (n * 1) (.bool false) := toList_madeCells_one _ _
  rw [e2, Nat.mul_one] at h2
  rw [List.map_replicate]
  exact h2

set_option maxHeartbeats 4000000 in
theorem rising_any (p : Option Addr) (cap n : Nat) (l : List Int) (w : World) (hn : n = l.length) (hi : Ints w p cap l) (h1 : 1 ≤ n) (h1000 : n ≤ 1000) :
    Calls Tryd.prog 19 #[.slice p n cap] w fun e w' => (∃ v r, e = .returned v ∧ OwnI w' w.heap.size v r ∧ r.length = n ∧ r[0]?.getD 0 = lo l ∧ r[n - 1]?.getD 0 = AimdMath.hi l) ∧ Below w.heap.size w w' := by
  have hlen := hi.len_le
  rw [← hn] at hlen
  obtain ⟨b, off, rfl, hbw, hc⟩ := hi.2.2.2 (by omega)
  have HI := Lib.hid hi
  have HN := Lib.hid hn
  have HC := Lib.hid (fun W (hb : Below w.heap.size w W) (j : Nat) (hj : j < n) => (World.cell?_of_block (w := w) (a := ⟨b, off + j, none⟩) (hb.block b hbw)).trans (hc j (by omega)))
  obtain ⟨w1, hm, hou, hg1⟩ := made w n h1000
  have HS : Hid (∃ r u, St l 0 r u ∧ OwnI w1 w.heap.size (.slice none 0 0) r ∧ OwnB w1 w.heap.size n u ∧ (Value.slice none 0 0).ownBlock ≠ some w.heap.size ∧ Below w.heap.size w w1) :=
    Lib.hid ⟨[], List.replicate n false, by rw [hn]; exact St_zero, OwnI.nil _ _, hou, by simp [Value.ownBlock], ⟨hg1.os, hg1.tape, hg1.output, hg1.size, fun k hk => hg1.block k hk (by simp)⟩⟩
  clear hi hn hc hou hg1 hbw
  go_enter Tryd.func19, Tryd.ntmps19
  go_wp2_with fail
  go_loopw [3, 5] (fun ov nv wr => ∃ j : Nat, ∃ vv, vv = ov ∧ j ≤ n ∧ nv = .int .i64 (j : Int) ∧ Hid (∃ r u, St l j r u ∧ OwnI wr w.heap.size vv r ∧ OwnB wr w.heap.size n u ∧ vv.ownBlock ≠ some w.heap.size ∧ Below w.heap.size w wr)) (fun _ i _ => n - (intOf i).toNat)
  case atStart => exact ⟨0, _, rfl, Nat.zero_le _, rfl, HS⟩
  case round =>
    obtain ⟨j, vv, rfl, hj, rfl, HW⟩ := hrel
    by_cases hjn : j < n
    · obtain ⟨r, u, hst, hor, hou, hne, hb⟩ := HW.out
      have hul := hou.1
      have HU := Lib.hid hou
      have HBD := Lib.hid hb
      have HST := Lib.hid (And.intro hst (And.intro hor hne))
      clear hor hou hne hb hst HS HW
      go_wp2_with fail
      go_loopw [6, 7] (fun bv iv wq => ∃ i m : Nat, ∃ t : Int, i ≤ n ∧ iv = .int .i64 (i : Int) ∧ bv = .int .i64 t ∧ wq = wr.drewN m ∧ Hid (Bst l u i t)) (fun _ i _ => n - (intOf i).toNat)
      case atStart => exact ⟨0, 0, -1, Nat.zero_le _, rfl, rfl, rfl, Lib.hid Bst_zero⟩
      case round =>
        obtain ⟨i, m, t, hin, rfl, rfl, rfl, HB⟩ := hrel
        by_cases hlt : i < n
        · obtain ⟨ub, hub⟩ : ∃ ub, u[i]? = some ub := ⟨_, List.getElem?_eq_getElem (by omega)⟩
          have cu := HU.out.cell i ub hub
          have HUB := Lib.hid hub
          clear hub
          cases ub with
          | true =>
            go_wp2_with fail
            go_quiet (fail)
            go_wp2_with fail
            go_roundw
            case rel => exact ⟨i + 1, _, t, by omega, by first | rfl | go_num, by first | trivial | rfl, by first | rfl | (simp only [World.drewN_drewN]; rfl), Lib.hid (Bst_used HB.out HUB.out)⟩
            case measure => simp [intOf]; omega
          | false =>
            rcases HB.out with ⟨rfl, hb2⟩ | ⟨c, rfl, hci, hc2, hc3⟩
            · have HB2 := Lib.hid (Bst_first (l := l) hb2 HUB.out)
              clear hb2 HB
              have t1 : decide ((-1 : Int) < 0) = true := by decide
              go_wp2_with fail
              go_quiet (fail)
              go_wp2_with fail
              go_roundw
              case rel => exact ⟨i + 1, _, _, by omega, by first | rfl | go_num, by first | trivial | rfl, by first | rfl | (simp only [World.drewN_drewN]; rfl), HB2⟩
              case measure => simp [intOf]; omega
            · have t1 : decide ((c : Int) < 0) = false := decide_eq_false (by omega)
              have hcn : c < n := by omega
              have ci := HC.out wr HBD.out i hlt
              have cc := HC.out wr HBD.out c hcn
              by_cases hx : l[i]?.getD 0 < l[c]?.getD 0
              · have HB2 := Lib.hid (Bst_less hc3 HUB.out hx)
                have t2 : decide (l[i]?.getD 0 < l[c]?.getD 0) = true := decide_eq_true hx
                clear hc2 hc3 HB hx
                generalize l[i]?.getD 0 = x at ci t2
                generalize l[c]?.getD 0 = y at cc t2
                go_wp2_with fail
                go_quiet (fail)
                go_wp2_with fail
                go_roundw
                case rel => exact ⟨i + 1, _, _, by omega, by first | rfl | go_num, by first | trivial | rfl, by first | rfl | (simp only [World.drewN_drewN]; rfl), HB2⟩
                case measure => simp [intOf]; omega
              · have HB2 := Lib.hid (Bst_not hci hc2 hc3 hx)
                have t2 : decide (l[i]?.getD 0 < l[c]?.getD 0) = false := decide_eq_false hx
                clear hc2 hc3 HB hx
                generalize l[i]?.getD 0 = x at ci t2
                generalize l[c]?.getD 0 = y at cc t2
                go_wp2_with fail
                go_quiet (fail)
                go_wp2_with fail
                go_roundw
                case rel => exact ⟨i + 1, _, _, by omega, by first | rfl | go_num, by first | trivial | rfl, by first | rfl | (simp only [World.drewN_drewN]; rfl), HB2⟩
                case measure => simp [intOf]; omega
        · obtain rfl : i = n := by omega
          obtain ⟨hst, hor, hne⟩ := HST.out
          obtain ⟨c, rfl, hc1, hc2, hst2⟩ := St_next hst (by have := HN.out; omega) (by rw [← HN.out]; exact HB.out)
          have hcn : c < i := by have := HN.out; omega
          have cu := HU.out.cell c false hc2
          have fu := HU.out.fz c
          have hxw : (Lit.int .i64 (l[c]?.getD 0)).wf = true := HI.out.2.2.1 c
          have HU2 := Lib.hid (show OwnB ((wr.drewN m).setCell ⟨w.heap.size, c, none⟩ (.bool true)) w.heap.size i (u.set c true) from OwnB.set (show OwnB (wr.drewN m) w.heap.size i u from HU.out) c true)
          have HB2 := Lib.hid (show Below w.heap.size w ((wr.drewN m).setCell ⟨w.heap.size, c, none⟩ (.bool true)) from gbelow (below_drewN HBD.out m) (Nat.le_refl _) (set_grown _ w.heap.size c (.bool true)) (Nat.le_refl _))
          have HO2 := Lib.hid (show OwnI ((wr.drewN m).setCell ⟨w.heap.size, c, none⟩ (.bool true)) w.heap.size vv r from OwnI.more (w := wr.drewN m) hor (set_grown _ w.heap.size c (.bool true)) (.inr hne))
          have HN2 := Lib.hid hne
          have HS2 := Lib.hid hst2
          have cc2 : ((wr.drewN m).setCell ⟨w.heap.size, c, none⟩ (.bool true)).cell? ⟨b, off + c, none⟩ = some (.int .i64 (l[c]?.getD 0)) := HC.out _ HB2.out c hcn
          clear hst hor hne hst2 HST HU HBD hc1 hc2 HB
          generalize l[c]?.getD 0 = x at cc2 hxw HS2
          have hB0 := HB2.out.size
          generalize hwz : (wr.drewN m).setCell ⟨w.heap.size, c, none⟩ (.bool true) = wz at cc2 HB2 HO2 HU2 hB0
          go_wp2_with (first
            | (at_builtin
               refine wp_app rfl (.tmp 47) (.tmp 52) rfl w.heap.size vv r (some ⟨wz.heap.size, 0, none⟩) 1 1 [x] rfl (HO2.out.alloc _) rfl rfl (Ints.one _ x hxw) (by have := HS2.out.2.1; have := HN.out; rw [List.length_append] at *; simp at *; omega) (Nat.le_trans hB0 (by simp)) ?_
               intro v8 w8 ho8 hg8 hat8
               have HB8 := Lib.hid (below_one HB2.out hB0 _ HO2.out hg8)
               have HO8 := Lib.hid ho8
               have HG8 := Lib.hid (And.intro hg8 hat8)
               clear ho8 hg8 hat8))
          go_wp2_with fail
          go_roundw
          case rel => exact ⟨j + 1, v8, rfl, by omega, by first | rfl | go_num, Lib.hid ⟨r ++ [x], u.set c true, HS2.out, HO8.out, (HU2.out.more (World.grownBy_alloc wz _ none) (by simp)).more HG8.out.1 (fun e => HN2.out e.symm), by
            rcases HG8.out.2 with e | e
            · rw [e]; exact HN2.out
            · rw [e]
              intro e2
              have h3 := HU2.out.lt
              have h4 := Option.some.inj e2
              simp at h4
              omega, HB8.out⟩⟩
          case measure => simp [intOf]; omega
    · obtain rfl : j = n := by omega
      obtain ⟨r, u, hst, hor, hou, hne, hb⟩ := HW.out
      have hen := St_end (by rw [← HN.out]; exact hst) (by rw [← HN.out]; omega)
      rw [← HN.out] at hen
      have HR := Lib.hid (And.intro hor (And.intro hen hb))
      clear hst hor hou hne hb HS HW hen
      go_wp2_with fail
      go_ret
      exact ⟨⟨_, r, rfl, HR.out.1, HR.out.2.1⟩, HR.out.2.2⟩
end Go.Proofs.YtlojehakifagbaaDoor.Rising
