/- From what a row lists of the variable of codes to what the contracts of package line ask. No statement is proved here. -/
import Derived.Test.YtooicigocljomaaDoorRows
import Derived.Test.YtooicigocljomaaDoorLine1
import Derived.Lib.LaidTab
import Derived.OpenShut
namespace Go.Proofs.YtooicigocljomaaDoor.Line
open Go.ChangeShapes Go.WideShapes Go.ChangeAt Go.RowKit
open Go.Proofs.YtooicigocljomaaDoor.Kit Go.Proofs.YtooicigocljomaaDoor.LineMath
set_option linter.unusedVariables false
set_option maxRecDepth 20000

theorem laid_codes_eq : (Rows.laid_ferryhythe_line_codes : DataW Unit) = .agg ((List.range 16).map fun i => Lib.tabData .i64 (code i)) := by rfl

theorem codes_of_laid {W : World} (h : laidMet Tryd.prog [("ferryhythe/line.codes", Rows.laid_ferryhythe_line_codes)] W) : Codes W := by
  obtain ⟨ps, ⟨g, t, cs, fuel, p, q, h1, h2, h3, h4, h5, rfl⟩, _, hcell⟩ := h
  obtain rfl : 0 = g := Option.some.inj ((show Tryd.prog.globalNamed "ferryhythe/line.codes" = some 0 by kernel_rfl).symm.trans h1)
  obtain rfl : 44 = t := Option.some.inj ((show (Tryd.prog.globals[0]?).map (·.type) = some 44 by kernel_rfl).symm.trans h2)
  have hc5 : Tryd.prog.cellsOf 43 = 5 := by kernel_rfl
  have hc1 : Tryd.prog.cellsOf 3 = 1 := by kernel_rfl
  have hc80 : Tryd.prog.cellsOf 44 = 80 := by kernel_rfl
  obtain ⟨xs, m, rfl, hx, hlen, hxl, hall⟩ := DataW.trod_array Tryd.underlying44 h4
  rw [hc80] at hlen
  have hx1 : xs.map (·.1) = (List.range 16).map fun i => (Lib.tabData .i64 (code i) : DataW Unit) := by
    have := congrArg Prod.fst hx
    rw [laid_codes_eq] at this
    simpa using this.symm
  have hpart : ∀ i : Nat, i < 16 → (cs.toList.drop (i * 5)).take 5 = (code i).map (Value.int .i64) := fun i hi => by
    have h6 := hall i hi
    rw [hc5] at h6
    have hxi : i < xs.length := by omega
    rw [List.getElem?_eq_getElem hxi] at h6
    have h7 : xs[i].1 = Lib.tabData .i64 (code i) := by
      have e := congrArg (fun l => l[i]?) hx1
      simp only [List.getElem?_map, List.getElem?_eq_getElem hxi, Option.map_some, List.getElem?_range hi] at e
      exact Option.some.inj e
    have h8 : xs[i] = (Lib.tabData .i64 (code i), xs[i].2) := by rw [← h7]
    rw [h8] at h6
    exact Lib.cells_of_tab Tryd.underlying43 Tryd.underlying3 hc1 hc5 h6
  have hcs : cs = (tab.map (Value.int .i64)).toArray := by
    have e : cs.toList = tab.map (Value.int .i64) := by
      apply List.ext_getElem?
      intro j
      by_cases hj : j < 80
      · have e1 := congrArg (fun l => l[j % 5]?) (hpart (j / 5) (by omega))
        simp only [List.getElem?_take, List.getElem?_drop, if_pos (show j % 5 < 5 by omega), show j / 5 * 5 + j % 5 = j by omega] at e1
        rw [e1]
        have key : ∀ i : Nat, i < 80 → ((code (i / 5)).map (Value.int .i64))[i % 5]? = (tab.map (Value.int .i64))[i]? := by
          intro i hi
          rw [List.getElem?_map, List.getElem?_map]
          congr 1
          revert i
          decide
        exact key j hj
      · rw [List.getElem?_eq_none (by omega), List.getElem?_eq_none (by simp [tab]; omega)]
    rw [← e]
  have hsz : cs.size = 80 := by simpa using hlen
  obtain ⟨⟨c, ty, hrow⟩, _⟩ := hcell 0 0 (List.mem_append_left _ (List.mem_append_left _ (MemPlace.mem_row.2 ⟨0, by omega, by simp⟩)))
  refine ⟨ty, ?_⟩
  rw [hrow]
  have : c = cs := by
    apply Array.ext_getElem?
    intro i
    have e1 := World.var?_cell h1 h3 i
    rw [cell_of_row W _ i _ _ _ hrow] at e1
    exact e1
  rw [this, hcs]
end Go.Proofs.YtooicigocljomaaDoor.Line
