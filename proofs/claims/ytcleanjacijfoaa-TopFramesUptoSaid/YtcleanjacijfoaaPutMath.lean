/- Putting fragments together, byte by byte. No statement is proved here. -/
import Derived.Test.YtcleanjacijfoaaJoinMore
namespace Go.Proofs.Ytcleanjacijfoaa.Part
open Go.ChangeShapes Go.WideShapes Go.ChangeAt Go.RowKit Go.Proofs.Ytcleanjacijfoaa.Kit Go.Proofs.Ytcleanjacijfoaa.App Go.Proofs.Ytcleanjacijfoaa.Cells
set_option linter.unusedVariables false
set_option maxRecDepth 20000

theorem foldJ_lo : ∀ {fin : Int} {h : Nat → Nat} {x : Prt} {l : List Prt}, right x = false → foldJ fin h (x :: l) = .error 1 := fun {fin h x l} hr => by unfold foldJ; rw [if_pos hr]
theorem foldJ_end {fin : Int} {h : Nat → Nat} {x : Prt} {l : List Prt} (hr : right x = true) (hm : x.more = false) (h0 : 0 ≤ fin) (h1 : fin ≠ ends x) : foldJ fin h (x :: l) = .error 6 := by
  unfold foldJ; rw [if_neg (by rw [hr]; simp), if_pos ⟨hm, h0, h1⟩]
theorem foldJ_clash {fin : Int} {h : Nat → Nat} {x : Prt} {l : List Prt} (hr : right x = true) (hm : ¬ (x.more = false ∧ 0 ≤ fin ∧ fin ≠ ends x)) (hc : clash h x) : foldJ fin h (x :: l) = .error 6 := by
  unfold foldJ; rw [if_neg (by rw [hr]; simp), if_neg hm, if_pos hc]
theorem foldJ_on {fin : Int} {h : Nat → Nat} {x : Prt} {l : List Prt} (hr : right x = true) (hm : ¬ (x.more = false ∧ 0 ≤ fin ∧ fin ≠ ends x)) (hc : ¬ clash h x) : foldJ fin h (x :: l) = foldJ (if x.more = true then fin else ends x) (put h x) l := by
  rw [foldJ, if_neg (by rw [hr]; simp), if_neg hm, if_neg hc]
/-- An error on the way is the error of all. -/
theorem join_none {l : List Prt} {fin : Int} {h : Nat → Nat} (h4 : ¬ 40 < l.length) (e : foldJ (-1) (fun _ => 0) l = .ok (fin, h)) (hf : fin < 0) : joinM l = .error 5 := by
  unfold joinM; rw [if_neg h4, e]; simp only; rw [if_pos hf]
theorem join_hole {l : List Prt} {fin : Nat} {h : Nat → Nat} (h4 : ¬ 40 < l.length) (e : foldJ (-1) (fun _ => 0) l = .ok ((fin : Int), h)) (i : Nat) (hi : i < fin) (h2 : i < 200) (h0 : h i = 0) : joinM l = .error 5 := by
  unfold joinM; rw [if_neg h4, e]; simp only; rw [if_neg (by omega), if_pos ⟨i, h2, by omega, h0⟩]
theorem join_over {l : List Prt} {fin : Nat} {h : Nat → Nat} (h4 : ¬ 40 < l.length) (e : foldJ (-1) (fun _ => 0) l = .ok ((fin : Int), h)) (hh : ∀ i, i < fin → h i ≠ 0) (i : Nat) (hi : fin ≤ i) (h2 : i < 200) (h0 : h i ≠ 0) : joinM l = .error 6 := by
  unfold joinM; rw [if_neg h4, e]; simp only; rw [if_neg (by omega), if_neg (by rintro ⟨j, _, hj, hj0⟩; exact hh j (by omega) hj0), if_pos ⟨i, h2, by omega, h0⟩]
theorem join_yes {l : List Prt} {fin : Nat} {h : Nat → Nat} (h4 : ¬ 40 < l.length) (e : foldJ (-1) (fun _ => 0) l = .ok ((fin : Int), h)) (hh : ∀ i, i < fin → h i ≠ 0) (ho : ∀ i, fin ≤ i → i < 200 → h i = 0) : joinM l = .ok ((List.range fin).map fun i => (h i - 1).toUInt8) := by
  unfold joinM; rw [if_neg h4, e]; simp only; rw [if_neg (by omega), if_neg (by rintro ⟨j, _, hj, hj0⟩; exact hh j (by omega) hj0), if_neg (by rintro ⟨j, h2, hj, hj0⟩; exact hj0 (ho j (by omega) h2)), Int.toNat_natCast]
theorem join_err {l : List Prt} {m : Int} (h4 : ¬ 40 < l.length) (h : foldJ (-1) (fun _ => 0) l = .error m) : joinM l = .error m := by
  unfold joinM; rw [if_neg h4, h]

theorem cell_at (a : Nat) (b : Bool) (s : ByteArray) (j : Nat) (h : j < s.size) : Prt.cell ⟨(a : Int), b, s⟩ (a + j) = (s[j]'h).toNat + 1 := by
  have hat : Prt.at ⟨(a : Int), b, s⟩ = a := by unfold Prt.at; simp
  unfold Prt.cell
  rw [hat, show a + j - a = j by omega]
  have hl : j < (Prt.bs ⟨(a : Int), b, s⟩).length := h
  rw [List.getElem?_eq_getElem hl]
  rfl
/-- The cells behind the first j bytes of a fragment. -/
def putTo (h : Nat → Nat) (x : Prt) (j : Nat) : Nat → Nat := fun i => if x.at ≤ i ∧ i < x.at + j then x.cell i else h i
theorem putTo_zero (h : Nat → Nat) (x : Prt) : putTo h x 0 = h := by funext i; unfold putTo; rw [if_neg (by omega)]
theorem putTo_all (h : Nat → Nat) (x : Prt) : putTo h x x.bs.length = put h x := rfl
theorem putTo_succ (h : Nat → Nat) (x : Prt) (j i : Nat) : putTo h x (j + 1) i = if i = x.at + j then x.cell (x.at + j) else putTo h x j i := by
  unfold putTo
  by_cases h1 : i = x.at + j
  · subst h1; rw [if_pos (by omega), if_pos rfl]
  · rw [if_neg h1]
    by_cases h2 : x.at ≤ i ∧ i < x.at + j
    · rw [if_pos h2, if_pos (by omega)]
    · rw [if_neg h2, if_neg (by omega)]
theorem putTo_at (h : Nat → Nat) (x : Prt) (j : Nat) : putTo h x j (x.at + j) = h (x.at + j) := by unfold putTo; rw [if_neg (by omega)]
/-- No clash among the first j bytes. -/
def Still (h : Nat → Nat) (x : Prt) (j : Nat) : Prop := ∀ i, x.at ≤ i → i < x.at + j → h i = 0 ∨ h i = x.cell i
theorem still_all {h : Nat → Nat} {x : Prt} (hs : Still h x x.bs.length) : ¬ clash h x := fun ⟨i, _, hc, h0, h1⟩ => by
  rcases hs i hc.1 hc.2 with e | e
  · exact h0 e
  · exact h1 e

end Go.Proofs.Ytcleanjacijfoaa.Part
