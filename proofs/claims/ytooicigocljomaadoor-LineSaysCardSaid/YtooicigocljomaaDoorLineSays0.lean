/- Helpers of the law that the functions of package line return what the document specifies. No statement is proved here. -/
import Derived.Test.YtooicigocljomaaDoorLineLaw
import Derived.Test.YtooicigocljomaaDoorLineRef
import Derived.Test.YtooicigocljomaaDoorApt
import Derived.Test.YtooicigocljomaaDoorAs
namespace Go.Proofs.YtooicigocljomaaDoor.lineSaysP
open Go.ChangeShapes Go.WideShapes Go.ChangeAt Go.RowKit
open Go.Proofs.YtooicigocljomaaDoor.Kit Go.Proofs.YtooicigocljomaaDoor.App Go.Proofs.YtooicigocljomaaDoor.LineMath Go.Proofs.YtooicigocljomaaDoor.Line Go.Proofs.YtooicigocljomaaDoor.As
set_option linter.unusedVariables false
set_option maxRecDepth 20000

theorem nils (W : World) : Calls Tryd.prog 12 #[.slice none 0 0, .slice none 0 0] W fun e w' => e = .returned (.bool true) ∧ Below W.heap.size W w' :=
  ints_any none none 0 0 0 0 [] [] W rfl rfl (Ints.nil W) (Ints.nil W) true rfl
theorem error_same (k : Int) (w : World) (hg : Handle w) : Calls Tryd.prog 11 #[.iface 45 (.int .i64 k), .int .i64 k] w fun e w' => e = .returned (.bool true) ∧ Below w.heap.size w w' := by
  have := error_hit k k w hg
  rwa [beq_self_eq_true] at this
theorem error_none (w : World) : Calls Tryd.prog 11 #[.nilIface, .int .i64 0] w fun e w' => e = .returned (.bool true) ∧ w = w' := error_nil 0 w

theorem say_step {l : List Int} {k : Nat} (h : k < l.length) : turns 0 (l.take (k + 1)) = turns 0 (l.take k) ++ [xr (level 0 (l.take k)) (l[k]?.getD 0)] ∧ level 0 (l.take (k + 1)) = xr (level 0 (l.take k)) (l[k]?.getD 0) ∧
    unt 0 (l.take (k + 1)) = unt 0 (l.take k) ++ [xr (prev l k) (l[k]?.getD 0)] := by
  rw [List.take_succ_eq_append_getElem h, turns_snoc, level_snoc, unt_snoc, prev_last l k (by omega), List.getElem?_eq_getElem h]
  exact ⟨rfl, rfl, rfl⟩
theorem five_step {l : List Int} {k : Nat} (h : k < l.length) : five (l.take (k + 1)) = five (l.take k) ++ code (l[k]?.getD 0).toNat := by
  rw [List.take_succ_eq_append_getElem h, five_snoc, List.getElem?_eq_getElem h]; rfl
theorem cut5_eq {l : List Int} {k : Nat} (h : 5 * k + 5 ≤ l.length) : (l.drop (5 * k)).take 5 = cut5 l k := by
  refine eq_of_get (by simp [cut5]; omega) fun j hj => ?_
  have hj5 : j < 5 := by rw [List.length_take] at hj; omega
  rw [List.getElem?_take, if_pos hj5, List.getElem?_drop]
  have h5 : j = 0 ∨ j = 1 ∨ j = 2 ∨ j = 3 ∨ j = 4 := by omega
  rcases h5 with rfl | rfl | rfl | rfl | rfl <;> rfl
theorem four_step {l x : List Int} {k : Nat} (h : four l k = some x) : (∀ n : Nat, num (cut5 l k) = some n → four l (k + 1) = some (x ++ [(n : Int)])) ∧ (num (cut5 l k) = none → four l (k + 1) = none) := by
  constructor
  · intro n e
    show (match four l k, num (cut5 l k) with | some x, some n => some (x ++ [(n : Int)]) | _, _ => none) = _
    rw [h, e]
  · intro e
    show (match four l k, num (cut5 l k) with | some x, some n => some (x ++ [(n : Int)]) | _, _ => none) = _
    rw [h, e]
theorem four_good (p : Option Addr) (cap n : Nat) (l : List Int) (w : World) (hn : n = l.length) (h : Ints w p cap l) (hC : Codes w) (h0 : bad 200 1 l = 0) (k5 : Nat) (h5 : 5 * k5 = n) (x : List Int) (hx : four l k5 = some x) :
    Calls Tryd.prog 17 #[.slice p n cap] w fun e w' => ∃ v, e = .returned (.tuple #[v, .nilIface]) ∧ OwnI w' w.heap.size v x ∧ Below w.heap.size w w' := by
  refine (four_any p cap n l w hC hn h h0 k5 h5 (some x) hx.symm).mono ?_
  rintro e w' ⟨hb, ⟨h1, _⟩ | ⟨x', v, h1, h2, h3⟩⟩
  · cases h1
  · cases h1; exact ⟨v, h2, h3, hb⟩
theorem four_syn (p : Option Addr) (cap n : Nat) (l : List Int) (w : World) (hn : n = l.length) (h : Ints w p cap l) (hC : Codes w) (h0 : bad 200 1 l = 0) (k5 : Nat) (h5 : 5 * k5 = n) (hx : four l k5 = none) :
    Calls Tryd.prog 17 #[.slice p n cap] w fun e w' => e = .returned (.tuple #[.slice none 0 0, .iface 45 (.int .i64 2)]) ∧ Below w.heap.size w w' := by
  refine (four_any p cap n l w hC hn h h0 k5 h5 none hx.symm).mono ?_
  rintro e w' ⟨hb, ⟨_, h2⟩ | ⟨x', v, h1, h2, h3⟩⟩
  · exact ⟨h2, hb⟩
  · cases h1
theorem bad_pos {lim : Nat} {hi : Int} {l : List Int} (h : bad lim hi l ≠ 0) : 0 < l.length := by
  rcases Nat.eq_zero_or_pos l.length with h0 | h0
  · have : l = [] := List.eq_nil_of_length_eq_zero h0
    subst this
    exact absurd (bad_of (by simp) rfl) h
  · exact h0

end Go.Proofs.YtooicigocljomaaDoor.lineSaysP
