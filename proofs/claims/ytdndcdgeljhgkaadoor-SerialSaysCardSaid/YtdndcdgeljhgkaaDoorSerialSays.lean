/- The functions of package serial return what the document specifies: the law returns true for every input. No condition. -/
import Derived.Test.YtdndcdgeljhgkaaDoorSerialRef
import Derived.Test.YtdndcdgeljhgkaaDoorAs
import Derived.Test.YtdndcdgeljhgkaaDoorCards
import Derived.Test.YtdndcdgeljhgkaaDoorTie
import Derived.Deep.DeepHandedRow
import Derived.Lib.LaidTab
import Derived.LaidHandle
import Derived.SevenTiedAt
namespace Go.Proofs.YtdndcdgeljhgkaaDoor.serialSaysP
open Go.ChangeShapes Go.WideShapes Go.ChangeAt Go.RowKit
open Go.Proofs.YtdndcdgeljhgkaaDoor.Kit Go.Proofs.YtdndcdgeljhgkaaDoor.Serial Go.Proofs.YtdndcdgeljhgkaaDoor.SerialRef Go.Proofs.YtdndcdgeljhgkaaDoor.As
set_option linter.unusedVariables false

set_option maxHeartbeats 2000000 in
theorem law_none (a b n x : Int) (w : World) (hg : Handle w) (ha : ¬ (0 ≤ a ∧ a ≤ 255)) : Calls Tryd.prog 3 #[.int .i64 a, .int .i64 b, .int .i64 n, .int .i64 x] w fun e w' => e = .returned (.bool true) ∧ Below w.heap.size w w' := by
  have IA := Lib.hid (fun W => in_no a 0 255 W ha)
  have AD := Lib.hid (fun W => add_no a n W (.inl ha))
  have LE := Lib.hid (fun W => less_no a b W (.inl ha))
  have ID := Lib.hid (fun W => in_no 0 1 127 W (by decide))
  have WH := Lib.hid (fun W => whole_no a x W (.inl ha))
  clear ha
  go_enter Tryd.func3, Tryd.ntmps3
  go_wp2_with fail
  refine (IA.out _).mono ?_; rintro e w' ⟨rfl, rfl⟩
  go_wp2_with fail
  refine (AD.out _).mono ?_; rintro e w' ⟨rfl, rfl⟩
  go_wp2_with fail
  refine (error_hit 1 1 _ hg).mono ?_; rintro e w1 ⟨rfl, hb1⟩
  go_wp2_with fail
  refine (IA.out _).mono ?_; rintro e w' ⟨rfl, rfl⟩
  go_wp2_with fail
  refine (LE.out _).mono ?_; rintro e w' ⟨rfl, rfl⟩
  go_wp2_with fail
  refine (error_hit 1 1 _ (hg.below hb1)).mono ?_; rintro e w2 ⟨rfl, hc2⟩
  have hb2 := bcall hb1 hc2
  go_wp2_with fail
  refine (ID.out _).mono ?_; rintro e w' ⟨rfl, rfl⟩
  go_wp2_with fail
  refine (IA.out _).mono ?_; rintro e w' ⟨rfl, rfl⟩
  go_wp2_with fail
  refine (WH.out _).mono ?_; rintro e w' ⟨rfl, rfl⟩
  go_wp2_with fail
  refine (error_hit 1 1 _ (hg.below hb2)).mono ?_; rintro e w3 ⟨rfl, hc3⟩
  have hb3 := bcall hb2 hc3
  go_wp2_with fail
  go_ret
  exact ⟨rfl, hb3⟩

set_option maxHeartbeats 2000000 in
theorem law_yyy (a b n x : Int) (w : World) (hg : Handle w) (ha : 0 ≤ a ∧ a ≤ 255) (hn : 0 ≤ n ∧ n ≤ 127) (hb : 0 ≤ b ∧ b ≤ 255) (hx : 0 ≤ x ∧ x ≤ 100000) : Calls Tryd.prog 3 #[.int .i64 a, .int .i64 b, .int .i64 n, .int .i64 x] w fun e w' => e = .returned (.bool true) ∧ Below w.heap.size w w' := by
  have IA := Lib.hid (fun W => in_yes a 0 255 W ha)
  have IN := Lib.hid (fun W => in_yes n 0 127 W hn)
  have IB := Lib.hid (fun W => in_yes b 0 255 W hb)
  have IX := Lib.hid (fun W => in_yes x 0 100000 W hx)
  obtain ⟨s, hs⟩ : ∃ s, (a + n) % 256 = s := ⟨_, rfl⟩
  have AD := Lib.hid (fun W => add_ok a n s W ha hn hs.symm)
  have ts : (s == s) = true := beq_self_eq_true s
  have hn0 : 0 ≤ n := hn.1
  have hn1 : n ≤ 127 := hn.2
  have HS := Lib.hid hs
  clear hs
  obtain ⟨d, hd⟩ : ∃ d, d = (b - a) % 256 := ⟨_, rfl⟩
  have HD := Lib.hid (fun W => ahead_ok a b d W ha hb hd)
  obtain ⟨y, hy⟩ : ∃ y, y = decide (1 ≤ d ∧ d ≤ 127) := ⟨_, rfl⟩
  obtain ⟨t, ht⟩ : ∃ t, (d != 128) = t := ⟨_, rfl⟩
  have LE := Lib.hid (fun W => less_ok a b y t W ha hb (by rw [hy, hd]) (by rw [← ht, ← hd]; apply Bool.eq_iff_iff.2; simp))
  have ID := Lib.hid (fun W => in_any d 1 127 W)
  rw [← hy] at ID
  have ty : (y == y) = true := beq_self_eq_true y
  have tt : (t == t) = true := beq_self_eq_true t
  clear hy hd
  obtain ⟨r, hr⟩ : ∃ r, r = whole a x := ⟨_, rfl⟩
  have RW := Lib.hid (fun W => rwhole_ok a x r W ha hx hr)
  have WH := Lib.hid (fun W => whole_ok a x r W ha hx hr)
  have tr : (r == r) = true := beq_self_eq_true r
  clear hr
  have ha0 : 0 ≤ a := ha.1
  have ha1 : a ≤ 255 := ha.2
  clear ha hn hb hx
  go_enter Tryd.func3, Tryd.ntmps3
  go_wp2_with fail
  refine (IA.out _).mono ?_; rintro e w' ⟨rfl, rfl⟩
  go_wp2_with fail
  refine (IN.out _).mono ?_; rintro e w' ⟨rfl, rfl⟩
  go_wp2_with fail
  rw [HS.out]
  refine (AD.out _).mono ?_; rintro e w' ⟨rfl, rfl⟩
  go_wp2_with fail
  refine (error_nil 0 _).mono ?_; rintro e w' ⟨rfl, rfl⟩
  go_wp2_with fail
  refine (IA.out _).mono ?_; rintro e w' ⟨rfl, rfl⟩
  go_wp2_with fail
  refine (IB.out _).mono ?_; rintro e w' ⟨rfl, rfl⟩
  go_wp2_with fail
  refine (HD.out _).mono ?_; rintro e w' ⟨rfl, rfl⟩
  go_wp2_with fail
  refine (LE.out _).mono ?_; rintro e w' ⟨rfl, rfl⟩
  go_wp2_with fail
  refine (error_nil 0 _).mono ?_; rintro e w' ⟨rfl, rfl⟩
  go_wp2_with fail
  refine (ID.out _).mono ?_; rintro e w' ⟨rfl, rfl⟩
  go_wp2_with fail
  refine (IA.out _).mono ?_; rintro e w' ⟨rfl, rfl⟩
  go_wp2_with fail
  refine (IX.out _).mono ?_; rintro e w' ⟨rfl, rfl⟩
  go_wp2_with fail
  refine (RW.out _).mono ?_; rintro e w' ⟨rfl, rfl⟩
  go_wp2_with fail
  refine (WH.out _).mono ?_; rintro e w' ⟨rfl, rfl⟩
  go_wp2_with fail
  refine (error_nil 0 _).mono ?_; rintro e w' ⟨rfl, rfl⟩
  go_wp2_with fail
  go_ret
  exact ⟨rfl, brefl _⟩

set_option maxHeartbeats 2000000 in
theorem law_yyn (a b n x : Int) (w : World) (hg : Handle w) (ha : 0 ≤ a ∧ a ≤ 255) (hn : 0 ≤ n ∧ n ≤ 127) (hb : 0 ≤ b ∧ b ≤ 255) (hx : ¬ (0 ≤ x ∧ x ≤ 100000)) : Calls Tryd.prog 3 #[.int .i64 a, .int .i64 b, .int .i64 n, .int .i64 x] w fun e w' => e = .returned (.bool true) ∧ Below w.heap.size w w' := by
  have IA := Lib.hid (fun W => in_yes a 0 255 W ha)
  have IN := Lib.hid (fun W => in_yes n 0 127 W hn)
  have IB := Lib.hid (fun W => in_yes b 0 255 W hb)
  have IX := Lib.hid (fun W => in_no x 0 100000 W hx)
  obtain ⟨s, hs⟩ : ∃ s, (a + n) % 256 = s := ⟨_, rfl⟩
  have AD := Lib.hid (fun W => add_ok a n s W ha hn hs.symm)
  have ts : (s == s) = true := beq_self_eq_true s
  have hn0 : 0 ≤ n := hn.1
  have hn1 : n ≤ 127 := hn.2
  have HS := Lib.hid hs
  clear hs
  obtain ⟨d, hd⟩ : ∃ d, d = (b - a) % 256 := ⟨_, rfl⟩
  have HD := Lib.hid (fun W => ahead_ok a b d W ha hb hd)
  obtain ⟨y, hy⟩ : ∃ y, y = decide (1 ≤ d ∧ d ≤ 127) := ⟨_, rfl⟩
  obtain ⟨t, ht⟩ : ∃ t, (d != 128) = t := ⟨_, rfl⟩
  have LE := Lib.hid (fun W => less_ok a b y t W ha hb (by rw [hy, hd]) (by rw [← ht, ← hd]; apply Bool.eq_iff_iff.2; simp))
  have ID := Lib.hid (fun W => in_any d 1 127 W)
  rw [← hy] at ID
  have ty : (y == y) = true := beq_self_eq_true y
  have tt : (t == t) = true := beq_self_eq_true t
  clear hy hd
  have WH := Lib.hid (fun W => whole_no a x W (.inr hx))
  have ha0 : 0 ≤ a := ha.1
  have ha1 : a ≤ 255 := ha.2
  clear ha hn hb hx
  go_enter Tryd.func3, Tryd.ntmps3
  go_wp2_with fail
  refine (IA.out _).mono ?_; rintro e w' ⟨rfl, rfl⟩
  go_wp2_with fail
  refine (IN.out _).mono ?_; rintro e w' ⟨rfl, rfl⟩
  go_wp2_with fail
  rw [HS.out]
  refine (AD.out _).mono ?_; rintro e w' ⟨rfl, rfl⟩
  go_wp2_with fail
  refine (error_nil 0 _).mono ?_; rintro e w' ⟨rfl, rfl⟩
  go_wp2_with fail
  refine (IA.out _).mono ?_; rintro e w' ⟨rfl, rfl⟩
  go_wp2_with fail
  refine (IB.out _).mono ?_; rintro e w' ⟨rfl, rfl⟩
  go_wp2_with fail
  refine (HD.out _).mono ?_; rintro e w' ⟨rfl, rfl⟩
  go_wp2_with fail
  refine (LE.out _).mono ?_; rintro e w' ⟨rfl, rfl⟩
  go_wp2_with fail
  refine (error_nil 0 _).mono ?_; rintro e w' ⟨rfl, rfl⟩
  go_wp2_with fail
  refine (ID.out _).mono ?_; rintro e w' ⟨rfl, rfl⟩
  go_wp2_with fail
  refine (IA.out _).mono ?_; rintro e w' ⟨rfl, rfl⟩
  go_wp2_with fail
  refine (IX.out _).mono ?_; rintro e w' ⟨rfl, rfl⟩
  go_wp2_with fail
  refine (WH.out _).mono ?_; rintro e w' ⟨rfl, rfl⟩
  go_wp2_with fail
  refine (error_hit 1 1 _ hg).mono ?_; rintro e w1 ⟨rfl, hb1⟩
  go_wp2_with fail
  go_ret
  exact ⟨rfl, hb1⟩

set_option maxHeartbeats 2000000 in
theorem law_yny (a b n x : Int) (w : World) (hg : Handle w) (ha : 0 ≤ a ∧ a ≤ 255) (hn : 0 ≤ n ∧ n ≤ 127) (hb : ¬ (0 ≤ b ∧ b ≤ 255)) (hx : 0 ≤ x ∧ x ≤ 100000) : Calls Tryd.prog 3 #[.int .i64 a, .int .i64 b, .int .i64 n, .int .i64 x] w fun e w' => e = .returned (.bool true) ∧ Below w.heap.size w w' := by
  have IA := Lib.hid (fun W => in_yes a 0 255 W ha)
  have IN := Lib.hid (fun W => in_yes n 0 127 W hn)
  have IB := Lib.hid (fun W => in_no b 0 255 W hb)
  have IX := Lib.hid (fun W => in_yes x 0 100000 W hx)
  obtain ⟨s, hs⟩ : ∃ s, (a + n) % 256 = s := ⟨_, rfl⟩
  have AD := Lib.hid (fun W => add_ok a n s W ha hn hs.symm)
  have ts : (s == s) = true := beq_self_eq_true s
  have hn0 : 0 ≤ n := hn.1
  have hn1 : n ≤ 127 := hn.2
  have HS := Lib.hid hs
  clear hs
  have LE := Lib.hid (fun W => less_no a b W (.inr hb))
  have ID := Lib.hid (fun W => in_no 0 1 127 W (by decide))
  obtain ⟨r, hr⟩ : ∃ r, r = whole a x := ⟨_, rfl⟩
  have RW := Lib.hid (fun W => rwhole_ok a x r W ha hx hr)
  have WH := Lib.hid (fun W => whole_ok a x r W ha hx hr)
  have tr : (r == r) = true := beq_self_eq_true r
  clear hr
  have ha0 : 0 ≤ a := ha.1
  have ha1 : a ≤ 255 := ha.2
  clear ha hn hb hx
  go_enter Tryd.func3, Tryd.ntmps3
  go_wp2_with fail
  refine (IA.out _).mono ?_; rintro e w' ⟨rfl, rfl⟩
  go_wp2_with fail
  refine (IN.out _).mono ?_; rintro e w' ⟨rfl, rfl⟩
  go_wp2_with fail
  rw [HS.out]
  refine (AD.out _).mono ?_; rintro e w' ⟨rfl, rfl⟩
  go_wp2_with fail
  refine (error_nil 0 _).mono ?_; rintro e w' ⟨rfl, rfl⟩
  go_wp2_with fail
  refine (IA.out _).mono ?_; rintro e w' ⟨rfl, rfl⟩
  go_wp2_with fail
  refine (IB.out _).mono ?_; rintro e w' ⟨rfl, rfl⟩
  go_wp2_with fail
  refine (LE.out _).mono ?_; rintro e w' ⟨rfl, rfl⟩
  go_wp2_with fail
  refine (error_hit 1 1 _ hg).mono ?_; rintro e w1 ⟨rfl, hb1⟩
  go_wp2_with fail
  refine (ID.out _).mono ?_; rintro e w' ⟨rfl, rfl⟩
  go_wp2_with fail
  refine (IA.out _).mono ?_; rintro e w' ⟨rfl, rfl⟩
  go_wp2_with fail
  refine (IX.out _).mono ?_; rintro e w' ⟨rfl, rfl⟩
  go_wp2_with fail
  refine (RW.out _).mono ?_; rintro e w' ⟨rfl, rfl⟩
  go_wp2_with fail
  refine (WH.out _).mono ?_; rintro e w' ⟨rfl, rfl⟩
  go_wp2_with fail
  refine (error_nil 0 _).mono ?_; rintro e w' ⟨rfl, rfl⟩
  go_wp2_with fail
  go_ret
  exact ⟨rfl, hb1⟩

set_option maxHeartbeats 2000000 in
theorem law_ynn (a b n x : Int) (w : World) (hg : Handle w) (ha : 0 ≤ a ∧ a ≤ 255) (hn : 0 ≤ n ∧ n ≤ 127) (hb : ¬ (0 ≤ b ∧ b ≤ 255)) (hx : ¬ (0 ≤ x ∧ x ≤ 100000)) : Calls Tryd.prog 3 #[.int .i64 a, .int .i64 b, .int .i64 n, .int .i64 x] w fun e w' => e = .returned (.bool true) ∧ Below w.heap.size w w' := by
  have IA := Lib.hid (fun W => in_yes a 0 255 W ha)
  have IN := Lib.hid (fun W => in_yes n 0 127 W hn)
  have IB := Lib.hid (fun W => in_no b 0 255 W hb)
  have IX := Lib.hid (fun W => in_no x 0 100000 W hx)
  obtain ⟨s, hs⟩ : ∃ s, (a + n) % 256 = s := ⟨_, rfl⟩
  have AD := Lib.hid (fun W => add_ok a n s W ha hn hs.symm)
  have ts : (s == s) = true := beq_self_eq_true s
  have hn0 : 0 ≤ n := hn.1
  have hn1 : n ≤ 127 := hn.2
  have HS := Lib.hid hs
  clear hs
  have LE := Lib.hid (fun W => less_no a b W (.inr hb))
  have ID := Lib.hid (fun W => in_no 0 1 127 W (by decide))
  have WH := Lib.hid (fun W => whole_no a x W (.inr hx))
  have ha0 : 0 ≤ a := ha.1
  have ha1 : a ≤ 255 := ha.2
  clear ha hn hb hx
  go_enter Tryd.func3, Tryd.ntmps3
  go_wp2_with fail
  refine (IA.out _).mono ?_; rintro e w' ⟨rfl, rfl⟩
  go_wp2_with fail
  refine (IN.out _).mono ?_; rintro e w' ⟨rfl, rfl⟩
  go_wp2_with fail
  rw [HS.out]
  refine (AD.out _).mono ?_; rintro e w' ⟨rfl, rfl⟩
  go_wp2_with fail
  refine (error_nil 0 _).mono ?_; rintro e w' ⟨rfl, rfl⟩
  go_wp2_with fail
  refine (IA.out _).mono ?_; rintro e w' ⟨rfl, rfl⟩
  go_wp2_with fail
  refine (IB.out _).mono ?_; rintro e w' ⟨rfl, rfl⟩
  go_wp2_with fail
  refine (LE.out _).mono ?_; rintro e w' ⟨rfl, rfl⟩
  go_wp2_with fail
  refine (error_hit 1 1 _ hg).mono ?_; rintro e w1 ⟨rfl, hb1⟩
  go_wp2_with fail
  refine (ID.out _).mono ?_; rintro e w' ⟨rfl, rfl⟩
  go_wp2_with fail
  refine (IA.out _).mono ?_; rintro e w' ⟨rfl, rfl⟩
  go_wp2_with fail
  refine (IX.out _).mono ?_; rintro e w' ⟨rfl, rfl⟩
  go_wp2_with fail
  refine (WH.out _).mono ?_; rintro e w' ⟨rfl, rfl⟩
  go_wp2_with fail
  refine (error_hit 1 1 _ (hg.below hb1)).mono ?_; rintro e w2 ⟨rfl, hc2⟩
  have hb2 := bcall hb1 hc2
  go_wp2_with fail
  go_ret
  exact ⟨rfl, hb2⟩

set_option maxHeartbeats 2000000 in
theorem law_nyy (a b n x : Int) (w : World) (hg : Handle w) (ha : 0 ≤ a ∧ a ≤ 255) (hn : ¬ (0 ≤ n ∧ n ≤ 127)) (hb : 0 ≤ b ∧ b ≤ 255) (hx : 0 ≤ x ∧ x ≤ 100000) : Calls Tryd.prog 3 #[.int .i64 a, .int .i64 b, .int .i64 n, .int .i64 x] w fun e w' => e = .returned (.bool true) ∧ Below w.heap.size w w' := by
  have IA := Lib.hid (fun W => in_yes a 0 255 W ha)
  have IN := Lib.hid (fun W => in_no n 0 127 W hn)
  have IB := Lib.hid (fun W => in_yes b 0 255 W hb)
  have IX := Lib.hid (fun W => in_yes x 0 100000 W hx)
  have AD := Lib.hid (fun W => add_no a n W (.inr hn))
  obtain ⟨d, hd⟩ : ∃ d, d = (b - a) % 256 := ⟨_, rfl⟩
  have HD := Lib.hid (fun W => ahead_ok a b d W ha hb hd)
  obtain ⟨y, hy⟩ : ∃ y, y = decide (1 ≤ d ∧ d ≤ 127) := ⟨_, rfl⟩
  obtain ⟨t, ht⟩ : ∃ t, (d != 128) = t := ⟨_, rfl⟩
  have LE := Lib.hid (fun W => less_ok a b y t W ha hb (by rw [hy, hd]) (by rw [← ht, ← hd]; apply Bool.eq_iff_iff.2; simp))
  have ID := Lib.hid (fun W => in_any d 1 127 W)
  rw [← hy] at ID
  have ty : (y == y) = true := beq_self_eq_true y
  have tt : (t == t) = true := beq_self_eq_true t
  clear hy hd
  obtain ⟨r, hr⟩ : ∃ r, r = whole a x := ⟨_, rfl⟩
  have RW := Lib.hid (fun W => rwhole_ok a x r W ha hx hr)
  have WH := Lib.hid (fun W => whole_ok a x r W ha hx hr)
  have tr : (r == r) = true := beq_self_eq_true r
  clear hr
  have ha0 : 0 ≤ a := ha.1
  have ha1 : a ≤ 255 := ha.2
  clear ha hn hb hx
  go_enter Tryd.func3, Tryd.ntmps3
  go_wp2_with fail
  refine (IA.out _).mono ?_; rintro e w' ⟨rfl, rfl⟩
  go_wp2_with fail
  refine (IN.out _).mono ?_; rintro e w' ⟨rfl, rfl⟩
  go_wp2_with fail
  refine (AD.out _).mono ?_; rintro e w' ⟨rfl, rfl⟩
  go_wp2_with fail
  refine (error_hit 1 1 _ hg).mono ?_; rintro e w1 ⟨rfl, hb1⟩
  go_wp2_with fail
  refine (IA.out _).mono ?_; rintro e w' ⟨rfl, rfl⟩
  go_wp2_with fail
  refine (IB.out _).mono ?_; rintro e w' ⟨rfl, rfl⟩
  go_wp2_with fail
  refine (HD.out _).mono ?_; rintro e w' ⟨rfl, rfl⟩
  go_wp2_with fail
  refine (LE.out _).mono ?_; rintro e w' ⟨rfl, rfl⟩
  go_wp2_with fail
  refine (error_nil 0 _).mono ?_; rintro e w' ⟨rfl, rfl⟩
  go_wp2_with fail
  refine (ID.out _).mono ?_; rintro e w' ⟨rfl, rfl⟩
  go_wp2_with fail
  refine (IA.out _).mono ?_; rintro e w' ⟨rfl, rfl⟩
  go_wp2_with fail
  refine (IX.out _).mono ?_; rintro e w' ⟨rfl, rfl⟩
  go_wp2_with fail
  refine (RW.out _).mono ?_; rintro e w' ⟨rfl, rfl⟩
  go_wp2_with fail
  refine (WH.out _).mono ?_; rintro e w' ⟨rfl, rfl⟩
  go_wp2_with fail
  refine (error_nil 0 _).mono ?_; rintro e w' ⟨rfl, rfl⟩
  go_wp2_with fail
  go_ret
  exact ⟨rfl, hb1⟩

set_option maxHeartbeats 2000000 in
theorem law_nyn (a b n x : Int) (w : World) (hg : Handle w) (ha : 0 ≤ a ∧ a ≤ 255) (hn : ¬ (0 ≤ n ∧ n ≤ 127)) (hb : 0 ≤ b ∧ b ≤ 255) (hx : ¬ (0 ≤ x ∧ x ≤ 100000)) : Calls Tryd.prog 3 #[.int .i64 a, .int .i64 b, .int .i64 n, .int .i64 x] w fun e w' => e = .returned (.bool true) ∧ Below w.heap.size w w' := by
  have IA := Lib.hid (fun W => in_yes a 0 255 W ha)
  have IN := Lib.hid (fun W => in_no n 0 127 W hn)
  have IB := Lib.hid (fun W => in_yes b 0 255 W hb)
  have IX := Lib.hid (fun W => in_no x 0 100000 W hx)
  have AD := Lib.hid (fun W => add_no a n W (.inr hn))
  obtain ⟨d, hd⟩ : ∃ d, d = (b - a) % 256 := ⟨_, rfl⟩
  have HD := Lib.hid (fun W => ahead_ok a b d W ha hb hd)
  obtain ⟨y, hy⟩ : ∃ y, y = decide (1 ≤ d ∧ d ≤ 127) := ⟨_, rfl⟩
  obtain ⟨t, ht⟩ : ∃ t, (d != 128) = t := ⟨_, rfl⟩
  have LE := Lib.hid (fun W => less_ok a b y t W ha hb (by rw [hy, hd]) (by rw [← ht, ← hd]; apply Bool.eq_iff_iff.2; simp))
  have ID := Lib.hid (fun W => in_any d 1 127 W)
  rw [← hy] at ID
  have ty : (y == y) = true := beq_self_eq_true y
  have tt : (t == t) = true := beq_self_eq_true t
  clear hy hd
  have WH := Lib.hid (fun W => whole_no a x W (.inr hx))
  have ha0 : 0 ≤ a := ha.1
  have ha1 : a ≤ 255 := ha.2
  clear ha hn hb hx
  go_enter Tryd.func3, Tryd.ntmps3
  go_wp2_with fail
  refine (IA.out _).mono ?_; rintro e w' ⟨rfl, rfl⟩
  go_wp2_with fail
  refine (IN.out _).mono ?_; rintro e w' ⟨rfl, rfl⟩
  go_wp2_with fail
  refine (AD.out _).mono ?_; rintro e w' ⟨rfl, rfl⟩
  go_wp2_with fail
  refine (error_hit 1 1 _ hg).mono ?_; rintro e w1 ⟨rfl, hb1⟩
  go_wp2_with fail
  refine (IA.out _).mono ?_; rintro e w' ⟨rfl, rfl⟩
  go_wp2_with fail
  refine (IB.out _).mono ?_; rintro e w' ⟨rfl, rfl⟩
  go_wp2_with fail
  refine (HD.out _).mono ?_; rintro e w' ⟨rfl, rfl⟩
  go_wp2_with fail
  refine (LE.out _).mono ?_; rintro e w' ⟨rfl, rfl⟩
  go_wp2_with fail
  refine (error_nil 0 _).mono ?_; rintro e w' ⟨rfl, rfl⟩
  go_wp2_with fail
  refine (ID.out _).mono ?_; rintro e w' ⟨rfl, rfl⟩
  go_wp2_with fail
  refine (IA.out _).mono ?_; rintro e w' ⟨rfl, rfl⟩
  go_wp2_with fail
  refine (IX.out _).mono ?_; rintro e w' ⟨rfl, rfl⟩
  go_wp2_with fail
  refine (WH.out _).mono ?_; rintro e w' ⟨rfl, rfl⟩
  go_wp2_with fail
  refine (error_hit 1 1 _ (hg.below hb1)).mono ?_; rintro e w2 ⟨rfl, hc2⟩
  have hb2 := bcall hb1 hc2
  go_wp2_with fail
  go_ret
  exact ⟨rfl, hb2⟩

set_option maxHeartbeats 2000000 in
theorem law_nny (a b n x : Int) (w : World) (hg : Handle w) (ha : 0 ≤ a ∧ a ≤ 255) (hn : ¬ (0 ≤ n ∧ n ≤ 127)) (hb : ¬ (0 ≤ b ∧ b ≤ 255)) (hx : 0 ≤ x ∧ x ≤ 100000) : Calls Tryd.prog 3 #[.int .i64 a, .int .i64 b, .int .i64 n, .int .i64 x] w fun e w' => e = .returned (.bool true) ∧ Below w.heap.size w w' := by
  have IA := Lib.hid (fun W => in_yes a 0 255 W ha)
  have IN := Lib.hid (fun W => in_no n 0 127 W hn)
  have IB := Lib.hid (fun W => in_no b 0 255 W hb)
  have IX := Lib.hid (fun W => in_yes x 0 100000 W hx)
  have AD := Lib.hid (fun W => add_no a n W (.inr hn))
  have LE := Lib.hid (fun W => less_no a b W (.inr hb))
  have ID := Lib.hid (fun W => in_no 0 1 127 W (by decide))
  obtain ⟨r, hr⟩ : ∃ r, r = whole a x := ⟨_, rfl⟩
  have RW := Lib.hid (fun W => rwhole_ok a x r W ha hx hr)
  have WH := Lib.hid (fun W => whole_ok a x r W ha hx hr)
  have tr : (r == r) = true := beq_self_eq_true r
  clear hr
  have ha0 : 0 ≤ a := ha.1
  have ha1 : a ≤ 255 := ha.2
  clear ha hn hb hx
  go_enter Tryd.func3, Tryd.ntmps3
  go_wp2_with fail
  refine (IA.out _).mono ?_; rintro e w' ⟨rfl, rfl⟩
  go_wp2_with fail
  refine (IN.out _).mono ?_; rintro e w' ⟨rfl, rfl⟩
  go_wp2_with fail
  refine (AD.out _).mono ?_; rintro e w' ⟨rfl, rfl⟩
  go_wp2_with fail
  refine (error_hit 1 1 _ hg).mono ?_; rintro e w1 ⟨rfl, hb1⟩
  go_wp2_with fail
  refine (IA.out _).mono ?_; rintro e w' ⟨rfl, rfl⟩
  go_wp2_with fail
  refine (IB.out _).mono ?_; rintro e w' ⟨rfl, rfl⟩
  go_wp2_with fail
  refine (LE.out _).mono ?_; rintro e w' ⟨rfl, rfl⟩
  go_wp2_with fail
  refine (error_hit 1 1 _ (hg.below hb1)).mono ?_; rintro e w2 ⟨rfl, hc2⟩
  have hb2 := bcall hb1 hc2
  go_wp2_with fail
  refine (ID.out _).mono ?_; rintro e w' ⟨rfl, rfl⟩
  go_wp2_with fail
  refine (IA.out _).mono ?_; rintro e w' ⟨rfl, rfl⟩
  go_wp2_with fail
  refine (IX.out _).mono ?_; rintro e w' ⟨rfl, rfl⟩
  go_wp2_with fail
  refine (RW.out _).mono ?_; rintro e w' ⟨rfl, rfl⟩
  go_wp2_with fail
  refine (WH.out _).mono ?_; rintro e w' ⟨rfl, rfl⟩
  go_wp2_with fail
  refine (error_nil 0 _).mono ?_; rintro e w' ⟨rfl, rfl⟩
  go_wp2_with fail
  go_ret
  exact ⟨rfl, hb2⟩

set_option maxHeartbeats 2000000 in
theorem law_nnn (a b n x : Int) (w : World) (hg : Handle w) (ha : 0 ≤ a ∧ a ≤ 255) (hn : ¬ (0 ≤ n ∧ n ≤ 127)) (hb : ¬ (0 ≤ b ∧ b ≤ 255)) (hx : ¬ (0 ≤ x ∧ x ≤ 100000)) : Calls Tryd.prog 3 #[.int .i64 a, .int .i64 b, .int .i64 n, .int .i64 x] w fun e w' => e = .returned (.bool true) ∧ Below w.heap.size w w' := by
  have IA := Lib.hid (fun W => in_yes a 0 255 W ha)
  have IN := Lib.hid (fun W => in_no n 0 127 W hn)
  have IB := Lib.hid (fun W => in_no b 0 255 W hb)
  have IX := Lib.hid (fun W => in_no x 0 100000 W hx)
  have AD := Lib.hid (fun W => add_no a n W (.inr hn))
  have LE := Lib.hid (fun W => less_no a b W (.inr hb))
  have ID := Lib.hid (fun W => in_no 0 1 127 W (by decide))
  have WH := Lib.hid (fun W => whole_no a x W (.inr hx))
  have ha0 : 0 ≤ a := ha.1
  have ha1 : a ≤ 255 := ha.2
  clear ha hn hb hx
  go_enter Tryd.func3, Tryd.ntmps3
  go_wp2_with fail
  refine (IA.out _).mono ?_; rintro e w' ⟨rfl, rfl⟩
  go_wp2_with fail
  refine (IN.out _).mono ?_; rintro e w' ⟨rfl, rfl⟩
  go_wp2_with fail
  refine (AD.out _).mono ?_; rintro e w' ⟨rfl, rfl⟩
  go_wp2_with fail
  refine (error_hit 1 1 _ hg).mono ?_; rintro e w1 ⟨rfl, hb1⟩
  go_wp2_with fail
  refine (IA.out _).mono ?_; rintro e w' ⟨rfl, rfl⟩
  go_wp2_with fail
  refine (IB.out _).mono ?_; rintro e w' ⟨rfl, rfl⟩
  go_wp2_with fail
  refine (LE.out _).mono ?_; rintro e w' ⟨rfl, rfl⟩
  go_wp2_with fail
  refine (error_hit 1 1 _ (hg.below hb1)).mono ?_; rintro e w2 ⟨rfl, hc2⟩
  have hb2 := bcall hb1 hc2
  go_wp2_with fail
  refine (ID.out _).mono ?_; rintro e w' ⟨rfl, rfl⟩
  go_wp2_with fail
  refine (IA.out _).mono ?_; rintro e w' ⟨rfl, rfl⟩
  go_wp2_with fail
  refine (IX.out _).mono ?_; rintro e w' ⟨rfl, rfl⟩
  go_wp2_with fail
  refine (WH.out _).mono ?_; rintro e w' ⟨rfl, rfl⟩
  go_wp2_with fail
  refine (error_hit 1 1 _ (hg.below hb2)).mono ?_; rintro e w3 ⟨rfl, hc3⟩
  have hb3 := bcall hb2 hc3
  go_wp2_with fail
  go_ret
  exact ⟨rfl, hb3⟩

theorem law (a b n x : Int) (w : World) (hg : Handle w) : Calls Tryd.prog 3 #[.int .i64 a, .int .i64 b, .int .i64 n, .int .i64 x] w fun e w' => e = .returned (.bool true) ∧ Below w.heap.size w w' := by
  by_cases ha : 0 ≤ a ∧ a ≤ 255
  · by_cases hn : 0 ≤ n ∧ n ≤ 127 <;> by_cases hb : 0 ≤ b ∧ b ≤ 255 <;> by_cases hx : 0 ≤ x ∧ x ≤ 100000
    · exact law_yyy a b n x w hg ha hn hb hx
    · exact law_yyn a b n x w hg ha hn hb hx
    · exact law_yny a b n x w hg ha hn hb hx
    · exact law_ynn a b n x w hg ha hn hb hx
    · exact law_nyy a b n x w hg ha hn hb hx
    · exact law_nyn a b n x w hg ha hn hb hx
    · exact law_nny a b n x w hg ha hn hb hx
    · exact law_nnn a b n x w hg ha hn hb hx
  · exact law_none a b n x w hg ha

theorem reads : Tryd.f3.params.toList.all (fun t => Tryd.prog.readableRec t && decide (t < Tryd.prog.types.size)) = true := by kernel_rfl
theorem et : Tryd.prog.globalNamed "errors.errorType" = some 0 := by kernel_rfl
theorem rt : (Tryd.prog.cutTypes.find? (·.1 == "internal/reflectlite.rtype")).map (·.2) = some 53 := by kernel_rfl
theorem oneRow : ((List.range Tryd.prog.types.size).filter fun t => Tryd.prog.rowNamed t [101, 114, 114, 111, 114]) = [24] := by kernel_rfl

theorem handle_of_laid {W : World} (h : laidMetH Tryd.prog Rows.serialSaysRow.laid W) : Handle W := by
  have h' : laidMet Tryd.prog [] W ∧ handlesMet Tryd.prog Rows.serialSaysRow.laid W := h
  obtain ⟨name, u, ty, e1, e2, e3, e4, e5⟩ := h'.2 _ (List.mem_singleton.2 rfl)
  have en : name = [101, 114, 114, 111, 114] := (Option.some.inj e1).symm
  subst en
  obtain rfl := Option.some.inj (rt.symm.trans e2)
  have hm : ty ∈ (List.range Tryd.prog.types.size).filter fun t => Tryd.prog.rowNamed t [101, 114, 114, 111, 114] := List.mem_filter.2 ⟨List.mem_range.2 e3, e4⟩
  rw [oneRow] at hm
  obtain rfl := List.mem_singleton.1 hm
  have hh : typeHandle Tryd.prog 24 = .pointer (some ⟨1, 24, none⟩) := by kernel_rfl
  rw [hh] at e5
  have e6 := World.var?_cell et e5 0
  unfold Handle
  simpa using e6

noncomputable def laidWorld (os : Os) : World :=
  { World.holding Tryd.prog os ⟨#[], #[], []⟩ with heap := (World.holding Tryd.prog os ⟨#[], #[], []⟩).heap.modify 0 fun
      | .cells _ t frozen => .cells #[.iface 53 (.agg #[.pointer (some ⟨1, 24, none⟩)])] t frozen
      | o => o }
theorem laid_met (os : Os) : laidMetH Tryd.prog Rows.serialSaysRow.laid ((laidWorld os).forCall (fun _ _ => 0) ⟨#[], #[.int .i64 0, .int .i64 0, .int .i64 0, .int .i64 0], []⟩).memory :=
  laidMetH_of_parts (laidMet_nil _ _) (by kernel_rfl)
theorem reads_wit (os : Os) {H : Type} (enc : TypeId × Value → H) : ∃ places, DataW.whole enc Tryd.prog ((laidWorld os).forCall (fun _ _ => 0) ⟨#[], #[.int .i64 0, .int .i64 0, .int .i64 0, .int .i64 0], []⟩).memory Tryd.f3.params.toList Rows.serialSaysSpec.vars false (#[.int .i64 0, .int .i64 0, .int .i64 0, .int .i64 0] : Array Value).toList 8 = some ([.lit (.int .i64 0), .lit (.int .i64 0), .lit (.int .i64 0), .lit (.int .i64 0)], [], places) :=
  ⟨[], by kernel_rfl⟩

theorem contract (H : Type) (enc : TypeId × Value → H) (W : World) (base : Nat) (args : Array Value) (ds gs : List (DataW H)) (before : List MemPlace)
    (hval : ∀ (j : Nat) t v, Tryd.f3.params[j]? = some t → args[j]? = some v → Value.okWide Tryd.prog W .any base t v)
    (hW : DataW.Whole enc Tryd.prog Tryd.f3.params.toList Rows.serialSaysSpec.vars false W args.toList ds gs before) (hL : laidMetH Tryd.prog Rows.serialSaysRow.laid W) :
    Calls Tryd.prog 3 args W fun e W' => ∃ v, e = .returned v ∧ Rows.serialSaysSpec.post enc Tryd.prog Tryd.f3 false true false false W args v W' := by
  have hW' := hW
  have hg := handle_of_laid hL
  obtain ⟨p, q, hA0, hV, rfl, hfz, hnd⟩ := hW
  have hA : DataW.TrodAll enc Tryd.prog W 0 (fun _ => true) true Tryd.f3.params.toList args.toList ds p := hA0
  have hlt := hA.lt
  rw [Tryd.params3] at hA hval
  obtain ⟨v0, vs0, d0, ds0, p0, q0, hargs, rfl, rfl, h0, r0⟩ := trodAll_cons hA
  obtain ⟨v1, vs1, d1, ds1, p1, q1, hvs1, rfl, rfl, h1, r1⟩ := trodAll_cons r0
  obtain ⟨v2, vs2, d2, ds2, p2, q2, hvs2, rfl, rfl, h2, r2⟩ := trodAll_cons r1
  obtain ⟨v3, vs3, d3, ds3, p3, q3, hvs3, rfl, rfl, h3, r3⟩ := trodAll_cons r2
  obtain ⟨hvsn, rfl, rfl⟩ := trodAll_nil r3
  simp only [hvsn, hvs3, hvs2, hvs1] at hargs
  obtain rfl : args = #[v0, v1, v2, v3] := by cases args; simp_all
  obtain ⟨a0, rfl, rfl, rfl, w0⟩ := open_int Tryd.underlying3 (hval 0 3 v0 rfl rfl) h0
  have b0 := bounds_int w0
  obtain ⟨a1, rfl, rfl, rfl, w1⟩ := open_int Tryd.underlying3 (hval 1 3 v1 rfl rfl) h1
  have b1 := bounds_int w1
  obtain ⟨a2, rfl, rfl, rfl, w2⟩ := open_int Tryd.underlying3 (hval 2 3 v2 rfl rfl) h2
  have b2 := bounds_int w2
  obtain ⟨a3, rfl, rfl, rfl, w3⟩ := open_int Tryd.underlying3 (hval 3 3 v3 rfl rfl) h3
  have b3 := bounds_int w3
  obtain ⟨rfl, rfl⟩ := trodVars_none hV
  clear hA0
  exact law_post 4 laid reads rfl Tryd.underlying4 rfl hW' ⟨rfl, rfl, rfl⟩ (law a0 a1 a2 a3 W hg)

set_option maxRecDepth 100000 in
theorem lifted (os : Os) (started : os.Started) (H : Type) (enc : TypeId × Value → H) (F : Stop.Interp) :
    ReturnsInHanded {} Tryd.checked os 3 .any ((OpenSpec.ofChange Rows.serialSaysSpec).preRow enc Tryd.prog Tryd.f3 Rows.serialSaysRow.domain false Rows.serialSaysRow.laid) (((OpenSpec.ofChange Rows.serialSaysSpec).at F).post enc Tryd.prog Tryd.f3 false true false false) := by
  obtain ⟨places, hx⟩ := reads_wit os enc
  refine returnsInHanded_of_row (C := Tryd.checked) (s := (OpenSpec.ofChange Rows.serialSaysSpec)) own started (by kernel_rfl) Tryd.func3
    (witness_row_at (enc := enc) (C := Tryd.checked) false (laidWorld os) #[.int .i64 0, .int .i64 0, .int .i64 0, .int .i64 0] rfl (by kernel_rfl) (by kernel_rfl) (by kernel_rfl)
      (OpenSpec.preRow_of_cond 8 hx (by kernel_rfl) (fun k hk => by cases hk) (by kernel_rfl) (laid_met os))) ?_
  intro W base args ds gs before hval hW _ hcond _ hL _ _
  exact contract H enc W base args ds gs before hval hW hL

theorem said : Rows.SerialSaysSaid :=
  OpenClaim.holds_of_cond 3 Tryd.f3 rfl rfl rfl rfl rfl rfl rfl ⟨rfl, rfl, rfl, rfl, rfl⟩ rfl rfl rfl rfl rfl (by kernel_rfl) Tryd.func3 (by kernel_rfl)
    (of_decide_eq_true (by kernel_rfl)) (by unfold Func.isWrapper; first | (rw [if_pos (by decide +kernel)]; kernel_rfl) | (rw [if_neg (by decide +kernel)]; exact ⟨rfl, rfl⟩))
    (fun os started H enc _ F => by rw [OpenClaim.pre_eq_preRow]; exact lifted os started H enc F)

theorem plain (f : FuncId) (fn : Func) (hf : Tryd.pinned.checked.prog.funcNamed Rows.serialSaysRow.func = some f) (hfn : Tryd.pinned.checked.prog.funcs[f]? = some fn) :
    true = Tryd.pinned.checked.prog.looks [] ∧ ∀ (j : Nat) t, fn.params[j]? = some t → Tryd.pinned.checked.prog.wantsStandIn t = false := by
  obtain rfl : f = 3 := Option.some.inj ((show Tryd.prog.funcNamed Rows.serialSaysRow.func = some 3 by kernel_rfl).symm.trans hf) |>.symm
  obtain rfl : fn = Tryd.f3 := (Option.some.inj (Tryd.func3.symm.trans hfn)).symm
  refine ⟨by kernel_rfl, fun j t ht => ?_⟩
  have hall : Tryd.f3.params.toList.all (fun t => !Tryd.prog.wantsStandIn t) = true := by kernel_rfl
  have hm : t ∈ Tryd.f3.params.toList := by simpa using Array.mem_of_getElem? ht
  have := List.all_eq_true.1 hall t hm
  show Tryd.prog.wantsStandIn t = false
  simpa using this

theorem proved : Rows.SerialSaysCardSaid :=
  Claim7.holds_tied_plain_at .later [] _ _ _ _ said (fun _ h => by cases h) (by kernel_rfl) (fun _ h => by cases h) serialSays_row_tie rfl ⟨rfl, rfl⟩ (by kernel_rfl) rfl plain (by kernel_rfl)
end Go.Proofs.YtdndcdgeljhgkaaDoor.serialSaysP
