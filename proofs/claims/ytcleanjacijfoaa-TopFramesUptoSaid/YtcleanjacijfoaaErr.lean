/- The program's errors as values, and what a store in one block leaves as it was. No statement is proved here. -/
import Derived.Test.YtcleanjacijfoaaBase
namespace Go.Proofs.Ytcleanjacijfoaa.Err
open Go.ChangeShapes Go.WideShapes Go.ChangeAt Go.RowKit Go.Proofs.Ytcleanjacijfoaa.Kit Go.Proofs.Ytcleanjacijfoaa.App
set_option linter.unusedVariables false
set_option maxRecDepth 20000

/-- The program's error of a code: nothing at 0. -/
def er (e : Int) : Value := if e = 0 then .nilIface else .iface 63 (.int .i64 e)
theorem er_0 : er 0 = .nilIface := rfl
theorem er_1 : er 1 = .iface 63 (.int .i64 1) := rfl
theorem er_2 : er 2 = .iface 63 (.int .i64 2) := rfl
theorem er_3 : er 3 = .iface 63 (.int .i64 3) := rfl
theorem er_4 : er 4 = .iface 63 (.int .i64 4) := rfl
theorem er_5 : er 5 = .iface 63 (.int .i64 5) := rfl
theorem er_6 : er 6 = .iface 63 (.int .i64 6) := rfl
theorem er_7 : er 7 = .iface 63 (.int .i64 7) := rfl
theorem er_8 : er 8 = .iface 63 (.int .i64 8) := rfl
theorem set_grown (w : World) (g k : Nat) (v : Value) : w.grownBy (w.setCell ⟨g, k, none⟩ v) (some g) :=
  ⟨rfl, rfl, rfl, by simp [World.setCell], fun j hj hne => by
    simp only [World.setCell, Array.getElem?_modify]
    rw [if_neg (fun e => hne (by rw [e]))]⟩
theorem grown_set {w w' : World} {g : Nat} (h : w.grownBy w' (some g)) (k : Nat) (v : Value) : w.grownBy (w'.setCell ⟨g, k, none⟩ v) (some g) :=
  ⟨h.os, h.tape, h.output, by have := h.size; simp [World.setCell]; omega, fun j hj hne => by
    rw [← h.block j hj hne]
    simp only [World.setCell, Array.getElem?_modify]
    rw [if_neg (fun e => hne (by rw [e]))]⟩
theorem grown_drewN {w w' : World} {r : Option Nat} (h : w.grownBy w' r) (n : Nat) : w.grownBy (w'.drewN n) r := ⟨h.os, h.tape, h.output, h.size, h.block⟩
theorem grown_drew {w w' : World} {r : Option Nat} (h : w.grownBy w' r) : w.grownBy w'.drew r := ⟨h.os, h.tape, h.output, h.size, h.block⟩
theorem grefl (w : World) (r : Option Nat) : w.grownBy w r := ⟨rfl, rfl, rfl, Nat.le_refl _, fun _ _ _ => rfl⟩
theorem wrap_in {n : Int} (h : -9223372036854775808 ≤ n ∧ n ≤ 9223372036854775807) : IntKind.i64.wrap n = n := by rw [IntKind.wrap_i64]; omega
theorem gbelow {B g : Nat} {a w w' : World} (h : Below B a w) (hB : B ≤ a.heap.size) (hg : w.grownBy w' (some g)) (hBg : B ≤ g) : Below B a w' :=
  h.grown hg (Nat.le_trans hB h.size) (fun k hk => by have := Option.some.inj hk; omega)
theorem bdrewN {B : Nat} {a w : World} (h : Below B a w) (n : Nat) : Below B a (w.drewN n) := below_drewN h n
theorem in_true {n a b : Int} (h : a ≤ n ∧ n ≤ b) : true = (decide (a ≤ n) && decide (n ≤ b)) := by symm; rw [Bool.and_eq_true, decide_eq_true_iff, decide_eq_true_iff]; exact h
theorem in_false {n a b : Int} (h : ¬ (a ≤ n ∧ n ≤ b)) : false = (decide (a ≤ n) && decide (n ≤ b)) := by
  symm
  rw [Bool.and_eq_false_iff, decide_eq_false_iff_not, decide_eq_false_iff_not]
  omega
end Go.Proofs.Ytcleanjacijfoaa.Err
