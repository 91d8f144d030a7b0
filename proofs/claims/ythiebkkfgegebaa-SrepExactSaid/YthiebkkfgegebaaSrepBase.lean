/- What the windows' texts share. No statement is proved here. -/
import Derived.Test.YthiebkkfgegebaaBase
namespace Go.Proofs.Ythiebkkfgegebaa.Srep
open Go.ChangeShapes Go.WideShapes Go.ChangeAt Go.RowKit Go.Proofs.Ythiebkkfgegebaa.Kit Go.Proofs.Ythiebkkfgegebaa.App
set_option linter.unusedVariables false

theorem tmod_natS (a b : Nat) : ((a : Int).tmod (b : Int)) = ((a % b : Nat) : Int) := by rw [Int.tmod_eq_emod_of_nonneg (by omega)]; simp
theorem tmod_eqS {s c R : Nat} (h : s % R = c % R) : (((s : Int).tmod (R : Int)) == ((c : Int).tmod (R : Int))) = true := by rw [tmod_natS, tmod_natS, h]; simp
theorem tmod_neS {s c R : Nat} (h : s % R ≠ c % R) : (((s : Int).tmod (R : Int)) == ((c : Int).tmod (R : Int))) = false := by rw [tmod_natS, tmod_natS, beq_eq_false_iff_ne]; omega
theorem emod_natS (a b : Nat) : ((a : Int) % (b : Int)) = ((a % b : Nat) : Int) := by simp
theorem emod_eqS {s c R : Nat} (h : s % R = c % R) : (((s : Int) % (R : Int)) == ((c : Int) % (R : Int))) = true := by rw [emod_natS, emod_natS, h]; simp
theorem emod_neS {s c R : Nat} (h : s % R ≠ c % R) : (((s : Int) % (R : Int)) == ((c : Int) % (R : Int))) = false := by rw [emod_natS, emod_natS, beq_eq_false_iff_ne]; omega
/-- Behind an append of a slice that was made since. -/
theorem pass_grown {w wr wa : World} {o : Obj} {bw : Nat} {row : Option Nat} {m : Nat} (hG : w.grownBy wr (some bw)) (hg : ((wr.drewN m).alloc o).grownBy wa row) (h : ∀ q, row = some q → w.heap.size ≤ q) : w.grownBy wa (some bw) := by
  have e : ((wr.drewN m).alloc o).heap.size = wr.heap.size + 1 := by simp
  refine ⟨hg.os.trans hG.os, hg.tape.trans hG.tape, hg.output.trans hG.output, ?_, fun k hk hne => ?_⟩
  · have := hG.size
    have := hg.size
    omega
  · have h1 := hG.size
    rw [hg.block k (by omega) (fun e => by have := h k e.symm; omega)]
    rw [← hG.block k hk hne]
    show (wr.heap.push o)[k]? = _
    rw [Array.getElem?_push_lt (by omega)]
    exact (Array.getElem?_eq_getElem (by omega)).symm
theorem pass_set {w wa : World} {bw : Nat} {v : Value} (hG : w.grownBy wa (some bw)) : w.grownBy (wa.setCell ⟨bw, 0, none⟩ v) (some bw) :=
  ⟨hG.os, hG.tape, hG.output, by have := hG.size; simp [World.setCell]; omega, fun k hk hne => by
    rw [← hG.block k hk hne]
    simp only [World.setCell, Array.getElem?_modify]
    rw [if_neg (fun e => hne (by rw [e]))]⟩
theorem set_grown (w : World) (bw : Nat) (v : Value) : w.grownBy (w.setCell ⟨bw, 0, none⟩ v) (some bw) := pass_set ⟨rfl, rfl, rfl, Nat.le_refl _, fun _ _ _ => rfl⟩
theorem own_far {v : Value} {bw B N : Nat} (h : ∀ k, v.ownBlock = some k → B ≤ k ∧ k < N) (hb : bw < B) : v.ownBlock = none ∨ v.ownBlock ≠ some bw := .inr fun e => by
  have := (h bw e).1
  omega
end Go.Proofs.Ythiebkkfgegebaa.Srep
