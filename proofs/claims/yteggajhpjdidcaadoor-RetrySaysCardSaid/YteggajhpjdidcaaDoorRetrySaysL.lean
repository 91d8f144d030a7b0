/- RetrySays: for all arguments, the functions of package retry return what the document specifies: for every input, the row's handle laid as the card says. -/
import Derived.Test.YteggajhpjdidcaaDoorCards
import Derived.Test.YteggajhpjdidcaaDoorTie
import Derived.Deep.DeepHandedRow
import Derived.Lib.LaidTab
import Derived.LaidHandle
import Derived.SevenTiedAt
import Derived.Test.YteggajhpjdidcaaDoorRetryOps
import Derived.Test.YteggajhpjdidcaaDoorRetryRef2
import Derived.Test.YteggajhpjdidcaaDoorAll
import Derived.Test.YteggajhpjdidcaaDoorSame
import Derived.Test.YteggajhpjdidcaaDoorErrSame
import Derived.Test.YteggajhpjdidcaaDoorIn4
namespace Go.Proofs.YteggajhpjdidcaaDoor.RetrySaysL
open Go.ChangeShapes Go.WideShapes Go.ChangeAt Go.RowKit Go.Proofs.YteggajhpjdidcaaDoor.Kit Go.Proofs.YteggajhpjdidcaaDoor.App Go.Proofs.YteggajhpjdidcaaDoor.Err Go.Proofs.YteggajhpjdidcaaDoor.RetryMath Go.Proofs.YteggajhpjdidcaaDoor.Retry Go.Proofs.YteggajhpjdidcaaDoor.As
set_option linter.unusedVariables false
set_option maxRecDepth 20000
set_option maxHeartbeats 4000000

abbrev Law (x : Int) (p : Option Addr) (cap n : Nat) (y : Int) (w : World) : Prop := Calls Tryd.prog 3 #[.int .i64 x, .slice p n cap, .int .i64 y] w fun e w' => e = .returned (.bool true) ∧ Below w.heap.size w w'
theorem ints_nil (W : World) : Ints W none 0 [] := ints_none W _ _ _ (by unfold maxLen; omega) rfl
theorem none_same (W : World) : Calls Tryd.prog 9 #[.slice none 0 0, .slice none 0 0] W fun e w' => e = .returned (.bool true) ∧ Below W.heap.size W w' := ints_any none none 0 0 0 0 [] [] W rfl rfl (ints_nil W) (ints_nil W) true (by decide)
theorem doc_good (n : Nat) (p : Option Addr) (cap k : Nat) (l : List Int) (w : World) (hk : k = l.length) (hi : Ints w p cap l) (g : Retry.Good n l) (m : Nat) (hm : (sent n l).length = m) :
    Calls Tryd.prog 6 #[.int .i64 (n : Int), .slice p k cap] w fun e w' => (∃ r cr r2 cr2, e = .returned (.tuple #[.slice r m cr, .slice r2 m cr2]) ∧ Ints w' r cr (who n l) ∧ Ints w' r2 cr2 (Retry.slots n l)) ∧ Below w.heap.size w w' := by
  have h1 := cast_nats g
  rw [who_is, slots_is]
  exact RetryDoc.retry_good n p cap k (nats l) w (by unfold nats; rw [List.length_map]; exact hk) (by
    have e : RetryDoc.cast (nats l) = l := h1.1
    rw [e]; exact hi) g.lo g.up (by have := g.len; omega) h1.2 m hm
theorem law_NW (x : Int) (p : Option Addr) (cap n : Nat) (l : List Int) (y : Nat) (w : World) (hH : Handle w) (hn : n = l.length) (hi : Ints w p cap l) (hx : ¬ (1 ≤ x ∧ x ≤ 5)) (hy : y ≤ 200) : Law x p cap n (y : Int) w := by
  have hlen := hi.len_le
  rw [← hn] at hlen
  have hc : code x l = 1 := by unfold code; rw [if_neg hx]
  have I1 := Lib.hid (fun W => Ring.in_any x 1 5 W false (in_false hx))
  have RB := Lib.hid (fun W (hW : Below w.heap.size w W) => run_bad x p cap n l W hn (hi.below hW) 1 hc (by decide))
  have E1 := Lib.hid (fun W (hb : Below w.heap.size w W) => err_same 1 W (hH.below hb))
  generalize er 1 = V1 at RB E1
  have I2 := Lib.hid (fun W => Ring.in_any (y : Int) 0 200 W true (in_true ⟨by omega, by omega⟩))
  have RM := Lib.hid (fun W => RetryDoc.room_any y W (by omega))
  have WG := Lib.hid (fun W => window_good y W hy)
  generalize room y = z at RM WG
  have tz : ((z : Int) == (z : Int)) = true := by simp
  have E0 := Lib.hid (fun W (hb : Below w.heap.size w W) => err_same 0 W (hH.below hb))
  rw [er_0] at E0
  clear hn hi hc hx hy hH
  unfold Law
  go_enter Tryd.func3, Tryd.ntmps3
  go_wp2_with fail
  refine (I1.out w).mono ?_; rintro e w9 ⟨rfl, hw9⟩
  rw [hw9]
  clear hw9 w9
  go_wp2_with fail
  refine (RB.out w (brefl w)).mono ?_; rintro e w1 ⟨rfl, hb⟩
  have HB1 := Lib.hid hb
  clear hb RB
  go_wp2_with fail
  refine (E1.out w1 HB1.out).mono ?_; rintro e w2 ⟨rfl, hb⟩
  have HB2 := Lib.hid (bcall HB1.out hb)
  clear hb HB1 E1
  go_wp2_with fail
  refine (none_same w2).mono ?_; rintro e w3 ⟨rfl, hb⟩
  have HB3 := Lib.hid (bcall HB2.out hb)
  clear hb HB2
  go_wp2_with fail
  refine (none_same w3).mono ?_; rintro e w4 ⟨rfl, hb⟩
  have HB4 := Lib.hid (bcall HB3.out hb)
  clear hb HB3
  go_wp2_with fail
  refine (I2.out w4).mono ?_; rintro e w9 ⟨rfl, hw9⟩
  rw [hw9]
  clear hw9 w9
  go_wp2_with fail
  refine (RM.out w4).mono ?_; rintro e w9 ⟨rfl, hw9⟩
  rw [hw9]
  clear hw9 w9
  go_wp2_with fail
  refine (WG.out w4).mono ?_; rintro e w5 ⟨rfl, hb⟩
  have HB5 := Lib.hid (bcall HB4.out hb)
  clear hb HB4 WG
  go_wp2_with fail
  refine (E0.out w5 HB5.out).mono ?_; rintro e w6 ⟨rfl, hb⟩
  have HB6 := Lib.hid (bcall HB5.out hb)
  clear hb HB5
  go_wp2_with fail
  go_ret
  exact ⟨by first | rfl | simp, HB6.out⟩
theorem law_NX (x : Int) (p : Option Addr) (cap n : Nat) (l : List Int) (y : Int) (w : World) (hH : Handle w) (hn : n = l.length) (hi : Ints w p cap l) (hx : ¬ (1 ≤ x ∧ x ≤ 5)) (hy : ¬ (0 ≤ y ∧ y ≤ 200)) : Law x p cap n y w := by
  have hlen := hi.len_le
  rw [← hn] at hlen
  have hc : code x l = 1 := by unfold code; rw [if_neg hx]
  have I1 := Lib.hid (fun W => Ring.in_any x 1 5 W false (in_false hx))
  have RB := Lib.hid (fun W (hW : Below w.heap.size w W) => run_bad x p cap n l W hn (hi.below hW) 1 hc (by decide))
  have E1 := Lib.hid (fun W (hb : Below w.heap.size w W) => err_same 1 W (hH.below hb))
  generalize er 1 = V1 at RB E1
  have I2 := Lib.hid (fun W => Ring.in_any y 0 200 W false (in_false hy))
  have WB := Lib.hid (fun W => window_bad y W hy)
  have E2 := Lib.hid (fun W (hb : Below w.heap.size w W) => err_same 1 W (hH.below hb))
  generalize er 1 = V2 at WB E2
  clear hn hi hc hx hy hH
  unfold Law
  go_enter Tryd.func3, Tryd.ntmps3
  go_wp2_with fail
  refine (I1.out w).mono ?_; rintro e w9 ⟨rfl, hw9⟩
  rw [hw9]
  clear hw9 w9
  go_wp2_with fail
  refine (RB.out w (brefl w)).mono ?_; rintro e w1 ⟨rfl, hb⟩
  have HB1 := Lib.hid hb
  clear hb RB
  go_wp2_with fail
  refine (E1.out w1 HB1.out).mono ?_; rintro e w2 ⟨rfl, hb⟩
  have HB2 := Lib.hid (bcall HB1.out hb)
  clear hb HB1 E1
  go_wp2_with fail
  refine (none_same w2).mono ?_; rintro e w3 ⟨rfl, hb⟩
  have HB3 := Lib.hid (bcall HB2.out hb)
  clear hb HB2
  go_wp2_with fail
  refine (none_same w3).mono ?_; rintro e w4 ⟨rfl, hb⟩
  have HB4 := Lib.hid (bcall HB3.out hb)
  clear hb HB3
  go_wp2_with fail
  refine (I2.out w4).mono ?_; rintro e w9 ⟨rfl, hw9⟩
  rw [hw9]
  clear hw9 w9
  go_wp2_with fail
  refine (WB.out w4).mono ?_; rintro e w5 ⟨rfl, hb⟩
  have HB5 := Lib.hid (bcall HB4.out hb)
  clear hb HB4 WB
  go_wp2_with fail
  refine (E2.out w5 HB5.out).mono ?_; rintro e w6 ⟨rfl, hb⟩
  have HB6 := Lib.hid (bcall HB5.out hb)
  clear hb HB5
  go_wp2_with fail
  go_ret
  exact ⟨by first | rfl | simp, HB6.out⟩
theorem law_LENW (x : Int) (p : Option Addr) (cap n : Nat) (l : List Int) (y : Nat) (w : World) (hH : Handle w) (hn : n = l.length) (hi : Ints w p cap l) (hx : 1 ≤ x ∧ x ≤ 5) (h2 : 200 < n) (hy : y ≤ 200) : Law x p cap n (y : Int) w := by
  have hlen := hi.len_le
  rw [← hn] at hlen
  have hc : code x l = 4 := by unfold code; rw [if_pos hx, if_pos (by omega)]
  have t1 : decide ((n : Int) > 200) = true := decide_eq_true (by omega)
  have t1n : decide (200 < n) = true := decide_eq_true h2
  have I1 := Lib.hid (fun W => Ring.in_any x 1 5 W true (in_true hx))
  have RB := Lib.hid (fun W (hW : Below w.heap.size w W) => run_bad x p cap n l W hn (hi.below hW) 4 hc (by decide))
  have E1 := Lib.hid (fun W (hb : Below w.heap.size w W) => err_same 4 W (hH.below hb))
  generalize er 4 = V1 at RB E1
  have I2 := Lib.hid (fun W => Ring.in_any (y : Int) 0 200 W true (in_true ⟨by omega, by omega⟩))
  have RM := Lib.hid (fun W => RetryDoc.room_any y W (by omega))
  have WG := Lib.hid (fun W => window_good y W hy)
  generalize room y = z at RM WG
  have tz : ((z : Int) == (z : Int)) = true := by simp
  have E0 := Lib.hid (fun W (hb : Below w.heap.size w W) => err_same 0 W (hH.below hb))
  rw [er_0] at E0
  clear hn hi hc hx hy hH h2
  unfold Law
  go_enter Tryd.func3, Tryd.ntmps3
  go_wp2_with fail
  refine (I1.out w).mono ?_; rintro e w9 ⟨rfl, hw9⟩
  rw [hw9]
  clear hw9 w9
  go_wp2_with fail
  refine (RB.out w (brefl w)).mono ?_; rintro e w1 ⟨rfl, hb⟩
  have HB1 := Lib.hid hb
  clear hb RB
  go_wp2_with fail
  refine (E1.out w1 HB1.out).mono ?_; rintro e w2 ⟨rfl, hb⟩
  have HB2 := Lib.hid (bcall HB1.out hb)
  clear hb HB1 E1
  go_wp2_with fail
  refine (none_same w2).mono ?_; rintro e w3 ⟨rfl, hb⟩
  have HB3 := Lib.hid (bcall HB2.out hb)
  clear hb HB2
  go_wp2_with fail
  refine (none_same w3).mono ?_; rintro e w4 ⟨rfl, hb⟩
  have HB4 := Lib.hid (bcall HB3.out hb)
  clear hb HB3
  go_wp2_with fail
  refine (I2.out w4).mono ?_; rintro e w9 ⟨rfl, hw9⟩
  rw [hw9]
  clear hw9 w9
  go_wp2_with fail
  refine (RM.out w4).mono ?_; rintro e w9 ⟨rfl, hw9⟩
  rw [hw9]
  clear hw9 w9
  go_wp2_with fail
  refine (WG.out w4).mono ?_; rintro e w5 ⟨rfl, hb⟩
  have HB5 := Lib.hid (bcall HB4.out hb)
  clear hb HB4 WG
  go_wp2_with fail
  refine (E0.out w5 HB5.out).mono ?_; rintro e w6 ⟨rfl, hb⟩
  have HB6 := Lib.hid (bcall HB5.out hb)
  clear hb HB5
  go_wp2_with fail
  go_ret
  exact ⟨by first | rfl | simp, HB6.out⟩
theorem law_LENX (x : Int) (p : Option Addr) (cap n : Nat) (l : List Int) (y : Int) (w : World) (hH : Handle w) (hn : n = l.length) (hi : Ints w p cap l) (hx : 1 ≤ x ∧ x ≤ 5) (h2 : 200 < n) (hy : ¬ (0 ≤ y ∧ y ≤ 200)) : Law x p cap n y w := by
  have hlen := hi.len_le
  rw [← hn] at hlen
  have hc : code x l = 4 := by unfold code; rw [if_pos hx, if_pos (by omega)]
  have t1 : decide ((n : Int) > 200) = true := decide_eq_true (by omega)
  have t1n : decide (200 < n) = true := decide_eq_true h2
  have I1 := Lib.hid (fun W => Ring.in_any x 1 5 W true (in_true hx))
  have RB := Lib.hid (fun W (hW : Below w.heap.size w W) => run_bad x p cap n l W hn (hi.below hW) 4 hc (by decide))
  have E1 := Lib.hid (fun W (hb : Below w.heap.size w W) => err_same 4 W (hH.below hb))
  generalize er 4 = V1 at RB E1
  have I2 := Lib.hid (fun W => Ring.in_any y 0 200 W false (in_false hy))
  have WB := Lib.hid (fun W => window_bad y W hy)
  have E2 := Lib.hid (fun W (hb : Below w.heap.size w W) => err_same 1 W (hH.below hb))
  generalize er 1 = V2 at WB E2
  clear hn hi hc hx hy hH h2
  unfold Law
  go_enter Tryd.func3, Tryd.ntmps3
  go_wp2_with fail
  refine (I1.out w).mono ?_; rintro e w9 ⟨rfl, hw9⟩
  rw [hw9]
  clear hw9 w9
  go_wp2_with fail
  refine (RB.out w (brefl w)).mono ?_; rintro e w1 ⟨rfl, hb⟩
  have HB1 := Lib.hid hb
  clear hb RB
  go_wp2_with fail
  refine (E1.out w1 HB1.out).mono ?_; rintro e w2 ⟨rfl, hb⟩
  have HB2 := Lib.hid (bcall HB1.out hb)
  clear hb HB1 E1
  go_wp2_with fail
  refine (none_same w2).mono ?_; rintro e w3 ⟨rfl, hb⟩
  have HB3 := Lib.hid (bcall HB2.out hb)
  clear hb HB2
  go_wp2_with fail
  refine (none_same w3).mono ?_; rintro e w4 ⟨rfl, hb⟩
  have HB4 := Lib.hid (bcall HB3.out hb)
  clear hb HB3
  go_wp2_with fail
  refine (I2.out w4).mono ?_; rintro e w9 ⟨rfl, hw9⟩
  rw [hw9]
  clear hw9 w9
  go_wp2_with fail
  refine (WB.out w4).mono ?_; rintro e w5 ⟨rfl, hb⟩
  have HB5 := Lib.hid (bcall HB4.out hb)
  clear hb HB4 WB
  go_wp2_with fail
  refine (E2.out w5 HB5.out).mono ?_; rintro e w6 ⟨rfl, hb⟩
  have HB6 := Lib.hid (bcall HB5.out hb)
  clear hb HB5
  go_wp2_with fail
  go_ret
  exact ⟨by first | rfl | simp, HB6.out⟩
theorem law_PICKW (x : Int) (p : Option Addr) (cap n : Nat) (l : List Int) (y : Nat) (w : World) (hH : Handle w) (hn : n = l.length) (hi : Ints w p cap l) (hx : 1 ≤ x ∧ x ≤ 5) (h2 : ¬ 200 < n) (h3 : App.within 0 1000 l = false) (hy : y ≤ 200) : Law x p cap n (y : Int) w := by
  have hlen := hi.len_le
  rw [← hn] at hlen
  have hc : code x l = 1 := by
    unfold code
    rw [if_pos hx, if_neg (by omega), if_neg]
    intro h
    rw [show l.all fit = App.within 0 1000 l from rfl, h3] at h
    cases h
  have t1 : decide ((n : Int) > 200) = false := decide_eq_false (by omega)
  have t1n : decide (200 < n) = false := decide_eq_false h2
  have AL := Lib.hid (fun W (hW : Below w.heap.size w W) => all_any 0 1000 p cap n l W hn (hi.below hW) false h3.symm)
  have I1 := Lib.hid (fun W => Ring.in_any x 1 5 W true (in_true hx))
  have RB := Lib.hid (fun W (hW : Below w.heap.size w W) => run_bad x p cap n l W hn (hi.below hW) 1 hc (by decide))
  have E1 := Lib.hid (fun W (hb : Below w.heap.size w W) => err_same 1 W (hH.below hb))
  generalize er 1 = V1 at RB E1
  have I2 := Lib.hid (fun W => Ring.in_any (y : Int) 0 200 W true (in_true ⟨by omega, by omega⟩))
  have RM := Lib.hid (fun W => RetryDoc.room_any y W (by omega))
  have WG := Lib.hid (fun W => window_good y W hy)
  generalize room y = z at RM WG
  have tz : ((z : Int) == (z : Int)) = true := by simp
  have E0 := Lib.hid (fun W (hb : Below w.heap.size w W) => err_same 0 W (hH.below hb))
  rw [er_0] at E0
  clear hn hi hc hx hy hH h2 h3
  unfold Law
  go_enter Tryd.func3, Tryd.ntmps3
  go_wp2_with fail
  refine (I1.out w).mono ?_; rintro e w9 ⟨rfl, hw9⟩
  rw [hw9]
  clear hw9 w9
  go_wp2_with fail
  refine (AL.out w (brefl w)).mono ?_; rintro e w9 ⟨rfl, hw9⟩
  rw [← hw9]
  clear hw9 w9
  go_wp2_with fail
  refine (RB.out w (brefl w)).mono ?_; rintro e w1 ⟨rfl, hb⟩
  have HB1 := Lib.hid hb
  clear hb RB
  go_wp2_with fail
  refine (E1.out w1 HB1.out).mono ?_; rintro e w2 ⟨rfl, hb⟩
  have HB2 := Lib.hid (bcall HB1.out hb)
  clear hb HB1 E1
  go_wp2_with fail
  refine (none_same w2).mono ?_; rintro e w3 ⟨rfl, hb⟩
  have HB3 := Lib.hid (bcall HB2.out hb)
  clear hb HB2
  go_wp2_with fail
  refine (none_same w3).mono ?_; rintro e w4 ⟨rfl, hb⟩
  have HB4 := Lib.hid (bcall HB3.out hb)
  clear hb HB3
  go_wp2_with fail
  refine (I2.out w4).mono ?_; rintro e w9 ⟨rfl, hw9⟩
  rw [hw9]
  clear hw9 w9
  go_wp2_with fail
  refine (RM.out w4).mono ?_; rintro e w9 ⟨rfl, hw9⟩
  rw [hw9]
  clear hw9 w9
  go_wp2_with fail
  refine (WG.out w4).mono ?_; rintro e w5 ⟨rfl, hb⟩
  have HB5 := Lib.hid (bcall HB4.out hb)
  clear hb HB4 WG
  go_wp2_with fail
  refine (E0.out w5 HB5.out).mono ?_; rintro e w6 ⟨rfl, hb⟩
  have HB6 := Lib.hid (bcall HB5.out hb)
  clear hb HB5
  go_wp2_with fail
  go_ret
  exact ⟨by first | rfl | simp, HB6.out⟩
theorem law_PICKX (x : Int) (p : Option Addr) (cap n : Nat) (l : List Int) (y : Int) (w : World) (hH : Handle w) (hn : n = l.length) (hi : Ints w p cap l) (hx : 1 ≤ x ∧ x ≤ 5) (h2 : ¬ 200 < n) (h3 : App.within 0 1000 l = false) (hy : ¬ (0 ≤ y ∧ y ≤ 200)) : Law x p cap n y w := by
  have hlen := hi.len_le
  rw [← hn] at hlen
  have hc : code x l = 1 := by
    unfold code
    rw [if_pos hx, if_neg (by omega), if_neg]
    intro h
    rw [show l.all fit = App.within 0 1000 l from rfl, h3] at h
    cases h
  have t1 : decide ((n : Int) > 200) = false := decide_eq_false (by omega)
  have t1n : decide (200 < n) = false := decide_eq_false h2
  have AL := Lib.hid (fun W (hW : Below w.heap.size w W) => all_any 0 1000 p cap n l W hn (hi.below hW) false h3.symm)
  have I1 := Lib.hid (fun W => Ring.in_any x 1 5 W true (in_true hx))
  have RB := Lib.hid (fun W (hW : Below w.heap.size w W) => run_bad x p cap n l W hn (hi.below hW) 1 hc (by decide))
  have E1 := Lib.hid (fun W (hb : Below w.heap.size w W) => err_same 1 W (hH.below hb))
  generalize er 1 = V1 at RB E1
  have I2 := Lib.hid (fun W => Ring.in_any y 0 200 W false (in_false hy))
  have WB := Lib.hid (fun W => window_bad y W hy)
  have E2 := Lib.hid (fun W (hb : Below w.heap.size w W) => err_same 1 W (hH.below hb))
  generalize er 1 = V2 at WB E2
  clear hn hi hc hx hy hH h2 h3
  unfold Law
  go_enter Tryd.func3, Tryd.ntmps3
  go_wp2_with fail
  refine (I1.out w).mono ?_; rintro e w9 ⟨rfl, hw9⟩
  rw [hw9]
  clear hw9 w9
  go_wp2_with fail
  refine (AL.out w (brefl w)).mono ?_; rintro e w9 ⟨rfl, hw9⟩
  rw [← hw9]
  clear hw9 w9
  go_wp2_with fail
  refine (RB.out w (brefl w)).mono ?_; rintro e w1 ⟨rfl, hb⟩
  have HB1 := Lib.hid hb
  clear hb RB
  go_wp2_with fail
  refine (E1.out w1 HB1.out).mono ?_; rintro e w2 ⟨rfl, hb⟩
  have HB2 := Lib.hid (bcall HB1.out hb)
  clear hb HB1 E1
  go_wp2_with fail
  refine (none_same w2).mono ?_; rintro e w3 ⟨rfl, hb⟩
  have HB3 := Lib.hid (bcall HB2.out hb)
  clear hb HB2
  go_wp2_with fail
  refine (none_same w3).mono ?_; rintro e w4 ⟨rfl, hb⟩
  have HB4 := Lib.hid (bcall HB3.out hb)
  clear hb HB3
  go_wp2_with fail
  refine (I2.out w4).mono ?_; rintro e w9 ⟨rfl, hw9⟩
  rw [hw9]
  clear hw9 w9
  go_wp2_with fail
  refine (WB.out w4).mono ?_; rintro e w5 ⟨rfl, hb⟩
  have HB5 := Lib.hid (bcall HB4.out hb)
  clear hb HB4 WB
  go_wp2_with fail
  refine (E2.out w5 HB5.out).mono ?_; rintro e w6 ⟨rfl, hb⟩
  have HB6 := Lib.hid (bcall HB5.out hb)
  clear hb HB5
  go_wp2_with fail
  go_ret
  exact ⟨by first | rfl | simp, HB6.out⟩
theorem law_GOODW (x : Nat) (p : Option Addr) (cap n : Nat) (l : List Int) (y : Nat) (w : World) (hH : Handle w) (hn : n = l.length) (hi : Ints w p cap l) (g : Retry.Good x l) (hy : y ≤ 200) : Law (x : Int) p cap n (y : Int) w := by
  have hlen := hi.len_le
  rw [← hn] at hlen
  have hx : 1 ≤ (x : Int) ∧ (x : Int) ≤ 5 := ⟨by have := g.lo; omega, by have := g.up; omega⟩
  have t1 : decide ((n : Int) > 200) = false := decide_eq_false (by have := g.len; omega)
  have t1n : decide (200 < n) = false := decide_eq_false (by have := g.len; omega)
  have AL := Lib.hid (fun W (hW : Below w.heap.size w W) => all_any 0 1000 p cap n l W hn (hi.below hW) true (App.within_of g.all).symm)
  have I1 := Lib.hid (fun W => Ring.in_any (x : Int) 1 5 W true (in_true hx))
  obtain ⟨m, hm⟩ : ∃ m, (sent x l).length = m := ⟨_, rfl⟩
  have RG := Lib.hid (fun W (hW : Below w.heap.size w W) => run_good x p cap n l W hn (hi.below hW) g m hm)
  have RD := Lib.hid (fun W (hW : Below w.heap.size w W) => doc_good x p cap n l W hn (hi.below hW) g m hm)
  have HM := Lib.hid (show m = (who x l).length ∧ m = (Retry.slots x l).length from ⟨by rw [who_len, hm], by rw [slots_len, hm]⟩)
  generalize who x l = A at RG RD HM
  generalize Retry.slots x l = B at RG RD HM
  have I2 := Lib.hid (fun W => Ring.in_any (y : Int) 0 200 W true (in_true ⟨by omega, by omega⟩))
  have RM := Lib.hid (fun W => RetryDoc.room_any y W (by omega))
  have WG := Lib.hid (fun W => window_good y W hy)
  generalize room y = z at RM WG
  have tz : ((z : Int) == (z : Int)) = true := by simp
  have E0 := Lib.hid (fun W (hb : Below w.heap.size w W) => err_same 0 W (hH.below hb))
  rw [er_0] at E0
  clear hn hi hx hy hH hm g
  unfold Law
  go_enter Tryd.func3, Tryd.ntmps3
  go_wp2_with fail
  refine (I1.out w).mono ?_; rintro e w9 ⟨rfl, hw9⟩
  rw [hw9]
  clear hw9 w9
  go_wp2_with fail
  refine (AL.out w (brefl w)).mono ?_; rintro e w9 ⟨rfl, hw9⟩
  rw [← hw9]
  clear hw9 w9
  go_wp2_with fail
  refine (RD.out w (brefl w)).mono ?_; rintro e w0 ⟨⟨q, cq, q2, cq2, rfl, iq, iq2⟩, hb⟩
  have HB0 := Lib.hid hb
  have IQ := Lib.hid iq
  have IQ2 := Lib.hid iq2
  clear hb RD iq iq2
  go_wp2_with fail
  refine (RG.out w0 HB0.out).mono ?_; rintro e w1 ⟨⟨r, cr, r2, cr2, rfl, ir, ir2⟩, hb⟩
  have HB1 := Lib.hid (bcall HB0.out hb)
  have S1 := Lib.hid (fun W (hW : Below w1.heap.size w1 W) => ints_any r q cr cq m m _ _ W HM.out.1 HM.out.1 (ir.below hW) (IQ.out.below (bcall hb hW)) true (by simp))
  have S2 := Lib.hid (fun W (hW : Below w1.heap.size w1 W) => ints_any r2 q2 cr2 cq2 m m _ _ W HM.out.2 HM.out.2 (ir2.below hW) (IQ2.out.below (bcall hb hW)) true (by simp))
  clear hb RG HB0 IQ IQ2 ir ir2
  go_wp2_with fail
  refine (E0.out w1 HB1.out).mono ?_; rintro e w2 ⟨rfl, hb⟩
  have HB2 := Lib.hid (bcall HB1.out hb)
  have HC2 := Lib.hid hb
  clear hb HB1
  go_wp2_with fail
  refine (S1.out w2 HC2.out).mono ?_; rintro e w3 ⟨rfl, hb⟩
  have HB3 := Lib.hid (bcall HB2.out hb)
  have HC3 := Lib.hid (bcall HC2.out hb)
  clear hb HB2 HC2 S1
  go_wp2_with fail
  refine (S2.out w3 HC3.out).mono ?_; rintro e w4 ⟨rfl, hb⟩
  have HB4 := Lib.hid (bcall HB3.out hb)
  clear hb HB3 HC3 S2
  go_wp2_with fail
  refine (I2.out w4).mono ?_; rintro e w9 ⟨rfl, hw9⟩
  rw [hw9]
  clear hw9 w9
  go_wp2_with fail
  refine (RM.out w4).mono ?_; rintro e w9 ⟨rfl, hw9⟩
  rw [hw9]
  clear hw9 w9
  go_wp2_with fail
  refine (WG.out w4).mono ?_; rintro e w5 ⟨rfl, hb⟩
  have HB5 := Lib.hid (bcall HB4.out hb)
  clear hb HB4 WG
  go_wp2_with fail
  refine (E0.out w5 HB5.out).mono ?_; rintro e w6 ⟨rfl, hb⟩
  have HB6 := Lib.hid (bcall HB5.out hb)
  clear hb HB5
  go_wp2_with fail
  go_ret
  exact ⟨by first | rfl | simp, HB6.out⟩
theorem law_GOODX (x : Nat) (p : Option Addr) (cap n : Nat) (l : List Int) (y : Int) (w : World) (hH : Handle w) (hn : n = l.length) (hi : Ints w p cap l) (g : Retry.Good x l) (hy : ¬ (0 ≤ y ∧ y ≤ 200)) : Law (x : Int) p cap n y w := by
  have hlen := hi.len_le
  rw [← hn] at hlen
  have hx : 1 ≤ (x : Int) ∧ (x : Int) ≤ 5 := ⟨by have := g.lo; omega, by have := g.up; omega⟩
  have t1 : decide ((n : Int) > 200) = false := decide_eq_false (by have := g.len; omega)
  have t1n : decide (200 < n) = false := decide_eq_false (by have := g.len; omega)
  have AL := Lib.hid (fun W (hW : Below w.heap.size w W) => all_any 0 1000 p cap n l W hn (hi.below hW) true (App.within_of g.all).symm)
  have I1 := Lib.hid (fun W => Ring.in_any (x : Int) 1 5 W true (in_true hx))
  obtain ⟨m, hm⟩ : ∃ m, (sent x l).length = m := ⟨_, rfl⟩
  have RG := Lib.hid (fun W (hW : Below w.heap.size w W) => run_good x p cap n l W hn (hi.below hW) g m hm)
  have RD := Lib.hid (fun W (hW : Below w.heap.size w W) => doc_good x p cap n l W hn (hi.below hW) g m hm)
  have HM := Lib.hid (show m = (who x l).length ∧ m = (Retry.slots x l).length from ⟨by rw [who_len, hm], by rw [slots_len, hm]⟩)
  generalize who x l = A at RG RD HM
  generalize Retry.slots x l = B at RG RD HM
  have I2 := Lib.hid (fun W => Ring.in_any y 0 200 W false (in_false hy))
  have WB := Lib.hid (fun W => window_bad y W hy)
  have E2 := Lib.hid (fun W (hb : Below w.heap.size w W) => err_same 1 W (hH.below hb))
  generalize er 1 = V2 at WB E2
  have E0 := Lib.hid (fun W (hb : Below w.heap.size w W) => err_same 0 W (hH.below hb))
  rw [er_0] at E0
  clear hn hi hx hy hH hm g
  unfold Law
  go_enter Tryd.func3, Tryd.ntmps3
  go_wp2_with fail
  refine (I1.out w).mono ?_; rintro e w9 ⟨rfl, hw9⟩
  rw [hw9]
  clear hw9 w9
  go_wp2_with fail
  refine (AL.out w (brefl w)).mono ?_; rintro e w9 ⟨rfl, hw9⟩
  rw [← hw9]
  clear hw9 w9
  go_wp2_with fail
  refine (RD.out w (brefl w)).mono ?_; rintro e w0 ⟨⟨q, cq, q2, cq2, rfl, iq, iq2⟩, hb⟩
  have HB0 := Lib.hid hb
  have IQ := Lib.hid iq
  have IQ2 := Lib.hid iq2
  clear hb RD iq iq2
  go_wp2_with fail
  refine (RG.out w0 HB0.out).mono ?_; rintro e w1 ⟨⟨r, cr, r2, cr2, rfl, ir, ir2⟩, hb⟩
  have HB1 := Lib.hid (bcall HB0.out hb)
  have S1 := Lib.hid (fun W (hW : Below w1.heap.size w1 W) => ints_any r q cr cq m m _ _ W HM.out.1 HM.out.1 (ir.below hW) (IQ.out.below (bcall hb hW)) true (by simp))
  have S2 := Lib.hid (fun W (hW : Below w1.heap.size w1 W) => ints_any r2 q2 cr2 cq2 m m _ _ W HM.out.2 HM.out.2 (ir2.below hW) (IQ2.out.below (bcall hb hW)) true (by simp))
  clear hb RG HB0 IQ IQ2 ir ir2
  go_wp2_with fail
  refine (E0.out w1 HB1.out).mono ?_; rintro e w2 ⟨rfl, hb⟩
  have HB2 := Lib.hid (bcall HB1.out hb)
  have HC2 := Lib.hid hb
  clear hb HB1
  go_wp2_with fail
  refine (S1.out w2 HC2.out).mono ?_; rintro e w3 ⟨rfl, hb⟩
  have HB3 := Lib.hid (bcall HB2.out hb)
  have HC3 := Lib.hid (bcall HC2.out hb)
  clear hb HB2 HC2 S1
  go_wp2_with fail
  refine (S2.out w3 HC3.out).mono ?_; rintro e w4 ⟨rfl, hb⟩
  have HB4 := Lib.hid (bcall HB3.out hb)
  clear hb HB3 HC3 S2
  go_wp2_with fail
  refine (I2.out w4).mono ?_; rintro e w9 ⟨rfl, hw9⟩
  rw [hw9]
  clear hw9 w9
  go_wp2_with fail
  refine (WB.out w4).mono ?_; rintro e w5 ⟨rfl, hb⟩
  have HB5 := Lib.hid (bcall HB4.out hb)
  clear hb HB4 WB
  go_wp2_with fail
  refine (E2.out w5 HB5.out).mono ?_; rintro e w6 ⟨rfl, hb⟩
  have HB6 := Lib.hid (bcall HB5.out hb)
  clear hb HB5
  go_wp2_with fail
  go_ret
  exact ⟨by first | rfl | simp, HB6.out⟩
theorem law_any (x : Int) (p : Option Addr) (cap n : Nat) (l : List Int) (y : Int) (w : World) (hH : Handle w) (hn : n = l.length) (hi : Ints w p cap l) : Law x p cap n y w := by
  by_cases hy : 0 ≤ y ∧ y ≤ 200
  · obtain ⟨z, rfl⟩ : ∃ z : Nat, y = (z : Int) := ⟨y.toNat, by omega⟩
    by_cases hx : 1 ≤ x ∧ x ≤ 5
    · by_cases h2 : 200 < n
      · exact law_LENW x p cap n l z w hH hn hi hx h2 (by omega)
      · cases h3 : App.within 0 1000 l with
        | false => exact law_PICKW x p cap n l z w hH hn hi hx h2 h3 (by omega)
        | true =>
          obtain ⟨k, rfl, g⟩ := code_zero (x := x) (l := l) (by unfold code; rw [if_pos hx, if_neg (by omega), if_pos (show l.all fit = true from h3)])
          exact law_GOODW k p cap n l z w hH hn hi g (by omega)
    · exact law_NW x p cap n l z w hH hn hi hx (by omega)
  · by_cases hx : 1 ≤ x ∧ x ≤ 5
    · by_cases h2 : 200 < n
      · exact law_LENX x p cap n l y w hH hn hi hx h2 hy
      · cases h3 : App.within 0 1000 l with
        | false => exact law_PICKX x p cap n l y w hH hn hi hx h2 h3 hy
        | true =>
          obtain ⟨k, rfl, g⟩ := code_zero (x := x) (l := l) (by unfold code; rw [if_pos hx, if_neg (by omega), if_pos (show l.all fit = true from h3)])
          exact law_GOODX k p cap n l y w hH hn hi g hy
    · exact law_NX x p cap n l y w hH hn hi hx hy

theorem reads : Tryd.f3.params.toList.all (fun t => Tryd.prog.readableRec t && decide (t < Tryd.prog.types.size)) = true := by kernel_rfl
theorem et : Tryd.prog.globalNamed "errors.errorType" = some 0 := by kernel_rfl
theorem rt : (Tryd.prog.cutTypes.find? (·.1 == "internal/reflectlite.rtype")).map (·.2) = some 64 := by kernel_rfl
theorem oneRow : ((List.range Tryd.prog.types.size).filter fun t => Tryd.prog.rowNamed t [101, 114, 114, 111, 114]) = [28] := by kernel_rfl

theorem handle_of_laid {W : World} (h : laidMetH Tryd.prog Rows.retrySaysRow.laid W) : Handle W := by
  have h' : laidMet Tryd.prog [] W ∧ handlesMet Tryd.prog Rows.retrySaysRow.laid W := h
  obtain ⟨name, u, ty, e1, e2, e3, e4, e5⟩ := h'.2 _ (List.mem_singleton.2 rfl)
  have en : name = [101, 114, 114, 111, 114] := (Option.some.inj e1).symm
  subst en
  obtain rfl := Option.some.inj (rt.symm.trans e2)
  have hm : ty ∈ (List.range Tryd.prog.types.size).filter fun t => Tryd.prog.rowNamed t [101, 114, 114, 111, 114] := List.mem_filter.2 ⟨List.mem_range.2 e3, e4⟩
  rw [oneRow] at hm
  obtain rfl := List.mem_singleton.1 hm
  have hh : typeHandle Tryd.prog 28 = .pointer (some ⟨1, 28, none⟩) := by kernel_rfl
  rw [hh] at e5
  have e6 := World.var?_cell et e5 0
  unfold Handle
  simpa using e6

noncomputable def laidWorld (os : Os) : World :=
  { World.holding Tryd.prog os ⟨#[], #[], []⟩ with heap := (World.holding Tryd.prog os ⟨#[], #[], []⟩).heap.modify 0 fun
      | .cells _ t frozen => .cells #[.iface 64 (.agg #[.pointer (some ⟨1, 28, none⟩)])] t frozen
      | o => o }
theorem laid_met (os : Os) : laidMetH Tryd.prog Rows.retrySaysRow.laid ((laidWorld os).forCall (fun _ _ => 0) ⟨#[], #[.int .i64 0, .slice none 0 0, .int .i64 0], []⟩).memory :=
  laidMetH_of_parts (laidMet_nil _ _) (by kernel_rfl)
theorem reads_wit (os : Os) {H : Type} (enc : TypeId × Value → H) : ∃ places, DataW.whole enc Tryd.prog ((laidWorld os).forCall (fun _ _ => 0) ⟨#[], #[.int .i64 0, .slice none 0 0, .int .i64 0], []⟩).memory Tryd.f3.params.toList Rows.retrySaysSpec.vars false (#[.int .i64 0, .slice none 0 0, .int .i64 0] : Array Value).toList 8 = some ([.lit (.int .i64 0), .nil, .lit (.int .i64 0)], [], places) :=
  ⟨[], by kernel_rfl⟩

theorem contract (H : Type) (enc : TypeId × Value → H) (W : World) (base : Nat) (args : Array Value) (ds gs : List (DataW H)) (before : List MemPlace)
    (hval : ∀ (j : Nat) t v, Tryd.f3.params[j]? = some t → args[j]? = some v → Value.okWide Tryd.prog W .any base t v)
    (hW : DataW.Whole enc Tryd.prog Tryd.f3.params.toList Rows.retrySaysSpec.vars false W args.toList ds gs before) (hL : laidMetH Tryd.prog Rows.retrySaysRow.laid W) :
    Calls Tryd.prog 3 args W fun e W' => ∃ v, e = .returned v ∧ Rows.retrySaysSpec.post enc Tryd.prog Tryd.f3 false true false false W args v W' := by
  have hW' := hW
  have hg := handle_of_laid hL
  obtain ⟨p, q, hA0, hV, rfl, hfz, hnd⟩ := hW
  have hA : DataW.TrodAll enc Tryd.prog W 0 (fun _ => true) true Tryd.f3.params.toList args.toList ds p := hA0
  have hlt := hA.lt
  rw [Tryd.params3] at hA hval
  obtain ⟨v0, vs0, d0, ds0, p0, q0, hargs, rfl, rfl, h0, r0⟩ := trodAll_cons hA
  obtain ⟨v1, vs1, d1, ds1, p1, q1, hvs1, rfl, rfl, h1, r1⟩ := trodAll_cons r0
  obtain ⟨v2, vs2, d2, ds2, p2, q2, hvs2, rfl, rfl, h2, r2⟩ := trodAll_cons r1
  obtain ⟨hvsn, rfl, rfl⟩ := trodAll_nil r2
  simp only [hvsn, hvs2, hvs1] at hargs
  obtain rfl : args = #[v0, v1, v2] := by cases args; simp_all
  obtain ⟨a0, rfl, rfl, rfl, w0⟩ := open_int Tryd.underlying3 (hval 0 3 v0 rfl rfl) h0
  have b0 := bounds_int w0
  obtain ⟨p1a, cap1, l1, rfl, i1⟩ := open_intsl Tryd.underlying22 Tryd.underlying3 (by kernel_rfl) (hval 1 22 v1 rfl rfl) h1 (fun x hx => hlt x (by simp [hx]))
  obtain ⟨a2, rfl, rfl, rfl, w2⟩ := open_int Tryd.underlying3 (hval 2 3 v2 rfl rfl) h2
  have b2 := bounds_int w2
  obtain ⟨rfl, rfl⟩ := trodVars_none hV
  clear hA0
  exact law_post 4 laid reads rfl Tryd.underlying4 rfl hW' ⟨rfl, rfl, rfl⟩ (law_any a0 p1a _ _ l1 a2 W hg rfl i1)

set_option maxRecDepth 100000 in
theorem lifted (os : Os) (started : os.Started) (H : Type) (enc : TypeId × Value → H) (F : Stop.Interp) :
    ReturnsInHanded {} Tryd.checked os 3 .any ((OpenSpec.ofChange Rows.retrySaysSpec).preRow enc Tryd.prog Tryd.f3 Rows.retrySaysRow.domain false Rows.retrySaysRow.laid) (((OpenSpec.ofChange Rows.retrySaysSpec).at F).post enc Tryd.prog Tryd.f3 false true false false) := by
  obtain ⟨places, hx⟩ := reads_wit os enc
  refine returnsInHanded_of_row (C := Tryd.checked) (s := (OpenSpec.ofChange Rows.retrySaysSpec)) own started (by kernel_rfl) Tryd.func3
    (witness_row_at (enc := enc) (C := Tryd.checked) false (laidWorld os) #[.int .i64 0, .slice none 0 0, .int .i64 0] rfl (by kernel_rfl) (by kernel_rfl) (by kernel_rfl)
      (OpenSpec.preRow_of_cond 8 hx (by kernel_rfl) (fun k hk => by cases hk) (by kernel_rfl) (laid_met os))) ?_
  intro W base args ds gs before hval hW _ hcond _ hL _ _
  exact contract H enc W base args ds gs before hval hW hL

theorem said : Rows.RetrySaysSaid :=
  OpenClaim.holds_of_cond 3 Tryd.f3 rfl rfl rfl rfl rfl rfl rfl ⟨rfl, rfl, rfl, rfl, rfl⟩ rfl rfl rfl rfl rfl (by kernel_rfl) Tryd.func3 (by kernel_rfl)
    (of_decide_eq_true (by kernel_rfl)) (by unfold Func.isWrapper; first | (rw [if_pos (by decide +kernel)]; kernel_rfl) | (rw [if_neg (by decide +kernel)]; exact ⟨rfl, rfl⟩))
    (fun os started H enc _ F => by rw [OpenClaim.pre_eq_preRow]; exact lifted os started H enc F)

theorem plain (f : FuncId) (fn : Func) (hf : Tryd.pinned.checked.prog.funcNamed Rows.retrySaysRow.func = some f) (hfn : Tryd.pinned.checked.prog.funcs[f]? = some fn) :
    true = Tryd.pinned.checked.prog.looks [] ∧ ∀ (j : Nat) t, fn.params[j]? = some t → Tryd.pinned.checked.prog.wantsStandIn t = false := by
  obtain rfl : f = 3 := Option.some.inj ((show Tryd.prog.funcNamed Rows.retrySaysRow.func = some 3 by kernel_rfl).symm.trans hf) |>.symm
  obtain rfl : fn = Tryd.f3 := (Option.some.inj (Tryd.func3.symm.trans hfn)).symm
  refine ⟨by kernel_rfl, fun j t ht => ?_⟩
  have hall : Tryd.f3.params.toList.all (fun t => !Tryd.prog.wantsStandIn t) = true := by kernel_rfl
  have hm : t ∈ Tryd.f3.params.toList := by simpa using Array.mem_of_getElem? ht
  have := List.all_eq_true.1 hall t hm
  show Tryd.prog.wantsStandIn t = false
  simpa using this

theorem proved : Rows.RetrySaysCardSaid :=
  Claim7.holds_tied_plain_at .later [] _ _ _ _ said (fun _ h => by cases h) (by kernel_rfl) (fun _ h => by cases h) retrySays_row_tie rfl ⟨rfl, rfl⟩ (by kernel_rfl) rfl plain (by kernel_rfl)
end Go.Proofs.YteggajhpjdidcaaDoor.RetrySaysL
