/- Contracts of Read of package cobs. No statement is proved here. -/
import Derived.Test.YtooicigocljomaaDoorCobs3
namespace Go.Proofs.YtooicigocljomaaDoor.Cobs
open Go.ChangeShapes Go.WideShapes Go.ChangeAt Go.RowKit
open Go.Proofs.YtooicigocljomaaDoor.Kit Go.Proofs.YtooicigocljomaaDoor.App Go.Proofs.YtooicigocljomaaDoor.CobsMath
set_option linter.unusedVariables false
set_option maxRecDepth 20000

theorem read_none (p : Option Addr) (cap n : Nat) (l : List Int) (w : World) (hn : n = l.length) (h : Ints w p cap l) (hl : l = []) :
    Calls Tryd.prog 23 #[.slice p n cap] w fun e w' => e = .returned (.tuple #[.slice none 0 0, .iface 45 (.int .i64 5)]) ∧ w = w' := by
  subst hn
  subst hl
  have C := Lib.hid (check_good 1200 p cap _ [] w rfl h (by omega) (bad_of (by simp) rfl))
  clear h
  go_enter Tryd.func23, Tryd.ntmps23
  go_wp2_with fail
  refine C.out.mono ?_; rintro e w' ⟨rfl, rfl⟩
  go_wp2_with fail
  go_ret2
  exact ⟨rfl, rfl⟩

theorem read_syn (p : Option Addr) (cap n : Nat) (l : List Int) (w : World) (hn : n = l.length) (h : Ints w p cap l) (h0 : bad 1200 l = 0) (hl : l ≠ []) (hd : dec l = none) :
    Calls Tryd.prog 23 #[.slice p n cap] w fun e w' => e = .returned (.tuple #[.slice none 0 0, .iface 45 (.int .i64 2)]) ∧ Below w.heap.size w w' := by
  subst hn
  have C := Lib.hid (check_good 1200 p cap _ l w rfl h (by omega) h0)
  have D := Lib.hid (decode_any p cap _ l w rfl h (bad_zero h0).1 (bad_zero h0).2 none hd.symm)
  have t1 : ((l.length : Int) == 0) = false := by
    rw [beq_eq_false_iff_ne]
    have : l.length ≠ 0 := fun e => hl (List.eq_nil_of_length_eq_zero e)
    omega
  clear h h0 hd
  go_enter Tryd.func23, Tryd.ntmps23
  go_wp2_with fail
  refine C.out.mono ?_; rintro e w' ⟨rfl, rfl⟩
  go_wp2_with fail
  refine D.out.mono ?_; rintro e w1 ⟨v, rfl, _, hb⟩
  go_wp2_with fail
  go_ret2
  exact ⟨rfl, hb⟩

theorem read_full (p : Option Addr) (cap n : Nat) (l : List Int) (w : World) (hn : n = l.length) (h : Ints w p cap l) (h0 : bad 1200 l = 0) (hl : l ≠ []) (x : List Int) (hd : dec l = some x) (hx : 600 < x.length) :
    Calls Tryd.prog 23 #[.slice p n cap] w fun e w' => e = .returned (.tuple #[.slice none 0 0, .iface 45 (.int .i64 4)]) ∧ Below w.heap.size w w' := by
  subst hn
  have C := Lib.hid (check_good 1200 p cap _ l w rfl h (by omega) h0)
  have D := Lib.hid (decode_any p cap _ l w rfl h (bad_zero h0).1 (bad_zero h0).2 (some x) hd.symm)
  have t1 : ((l.length : Int) == 0) = false := by
    rw [beq_eq_false_iff_ne]
    have : l.length ≠ 0 := fun e => hl (List.eq_nil_of_length_eq_zero e)
    omega
  have t2 : decide ((x.length : Int) > 600) = true := decide_eq_true (by omega)
  clear h h0 hd
  go_enter Tryd.func23, Tryd.ntmps23
  go_wp2_with fail
  refine C.out.mono ?_; rintro e w' ⟨rfl, rfl⟩
  go_wp2_with fail
  refine D.out.mono ?_; rintro e w1 ⟨v, rfl, ho, hb⟩
  obtain ⟨q, c, rfl, _⟩ := (ho x rfl).form
  clear ho
  go_wp2_with fail
  go_ret2
  exact ⟨rfl, hb⟩

theorem read_ok (p : Option Addr) (cap n : Nat) (l : List Int) (w : World) (hn : n = l.length) (h : Ints w p cap l) (h0 : bad 1200 l = 0) (hl : l ≠ []) (x : List Int) (hd : dec l = some x) (hx : x.length ≤ 600) :
    Calls Tryd.prog 23 #[.slice p n cap] w fun e w' => ∃ v, e = .returned (.tuple #[v, .nilIface]) ∧ OwnI w' w.heap.size v x ∧ Below w.heap.size w w' := by
  subst hn
  have C := Lib.hid (check_good 1200 p cap _ l w rfl h (by omega) h0)
  have D := Lib.hid (decode_any p cap _ l w rfl h (bad_zero h0).1 (bad_zero h0).2 (some x) hd.symm)
  have t1 : ((l.length : Int) == 0) = false := by
    rw [beq_eq_false_iff_ne]
    have : l.length ≠ 0 := fun e => hl (List.eq_nil_of_length_eq_zero e)
    omega
  have t2 : decide ((x.length : Int) > 600) = false := decide_eq_false (by omega)
  clear h h0 hd
  go_enter Tryd.func23, Tryd.ntmps23
  go_wp2_with fail
  refine C.out.mono ?_; rintro e w' ⟨rfl, rfl⟩
  go_wp2_with fail
  refine D.out.mono ?_; rintro e w1 ⟨v, rfl, ho, hb⟩
  have hO := Lib.hid (ho x rfl)
  obtain ⟨q, c, rfl, _⟩ := (ho x rfl).form
  clear ho
  go_wp2_with fail
  go_ret2
  exact ⟨_, rfl, hO.out, hb⟩

end Go.Proofs.YtooicigocljomaaDoor.Cobs
