/- Package drr: cells of what comes, rows one by one. No statement is proved here. -/
import Derived.Test.YtckfobkkjiiheaaDrrCheck
import Derived.Test.YtckfobkkjiiheaaRowsAt
namespace Go.Proofs.Ytckfobkkjiiheaa.Drr
open Go.ChangeShapes Go.WideShapes Go.ChangeAt Go.RowKit Go.Proofs.Ytckfobkkjiiheaa.Kit Go.Proofs.Ytckfobkkjiiheaa.App Go.Proofs.Ytckfobkkjiiheaa.Err
set_option linter.unusedVariables false
set_option maxRecDepth 20000
set_option maxHeartbeats 1000000

theorem cell_ints {w : World} {b off cap : Nat} {l : List Int} (hi : Ints w (some ⟨b, off, none⟩) cap l) (j : Nat) (hj : j < l.length) : w.cell? ⟨b, off + j, none⟩ = some (.int .i64 (l[j]?.getD 0)) := by
  obtain ⟨b', off', e, _, hc⟩ := hi.2.2.2 (by omega)
  injection e with e
  injection e with e1 e2
  subst e1 e2
  exact hc j hj
theorem some_ints {w : World} {p : Option Addr} {cap : Nat} {l : List Int} (hi : Ints w p cap l) (h0 : 0 < l.length) : ∃ b off, p = some ⟨b, off, none⟩ := by
  obtain ⟨b, off, e, _, _⟩ := hi.2.2.2 h0
  exact ⟨b, off, e⟩
theorem take_step {l : List Int} {k : Nat} (h : k < l.length) : l.take (k + 1) = l.take k ++ [l[k]?.getD 0] := by
  rw [List.take_add_one, List.getElem?_eq_getElem h]; rfl
theorem things_take {ls : List (List Int)} {k : Nat} (h : k < ls.length) : things (ls.take (k + 1)) = things (ls.take k) + (row ls k).length := by
  unfold things row
  rw [List.take_add_one, List.getElem?_eq_getElem h, List.map_append, List.sum_append]
  simp only [Option.toList, List.map_cons, List.map_nil, List.sum_cons, List.sum_nil, Option.getD, Nat.add_zero]
theorem tot_take_step {l : List Int} {k : Nat} (h : k < l.length) : tot (l.take (k + 1)) = tot (l.take k) + l[k]?.getD 0 := by
  rw [take_step h, tot_append]; simp [tot]
end Go.Proofs.Ytckfobkkjiiheaa.Drr
