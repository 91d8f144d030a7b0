/- The contracts of slices.Equal, and of slices.EqualFunc with it, at rows of numbers. General. No statement is proved here. -/
import Derived.Test.YthggfkdpggfkbaaDoorRowsEq
import Derived.BigQuiet
import Derived.RegionTactic
namespace Go.Proofs.YthggfkdpggfkbaaDoor.App
open Go.ChangeShapes Go.WideShapes Go.ChangeAt Go.RowKit Go.Proofs.YthggfkdpggfkbaaDoor.Kit
set_option linter.unusedVariables false

set_option maxHeartbeats 1000000 in
theorem equal_any_q (p q : Option Addr) (cap cap2 n m : Nat) (a b : List Int) (w : World) (hn : n = a.length) (hm : m = b.length) (ha : Ints w p cap a) (hb : Ints w q cap2 b) (R : Bool) (hR0 : R = (a == b)) :
    Calls Tryd.prog 21 #[.slice p n cap, .slice q m cap2] w fun e w' => e = .returned (.bool R) ∧ ∃ m, w' = w.drewN m := by
  have hR := Lib.hid hR0
  clear hR0
  subst hn; subst hm
  have hla := ha.len_le
  have hlb := hb.len_le
  by_cases hlen : a.length = b.length
  · have t0 : ((a.length : Int) != (b.length : Int)) = false := by rw [hlen]; simp
    go_enter Tryd.func21, Tryd.ntmps21
    go_wp2
    go_loopw [13] (fun i wr => ∃ k m : Nat, k ≤ a.length ∧ i = .int .i64 k ∧ Hid (∀ j : Nat, j < k → a[j]?.getD 0 = b[j]?.getD 0) ∧ wr = w.drewN m) (fun i _ => a.length - (intOf i).toNat)
    case atStart => exact ⟨0, 0, Nat.zero_le _, rfl, fun j hj => absurd hj (Nat.not_lt_zero _), rfl⟩
    case round =>
      obtain ⟨k, m, hk, rfl, H, rfl⟩ := hrel
      by_cases hlt : k < a.length
      · obtain ⟨b1, off1, rfl, hb1, hc1⟩ := ha.2.2.2 (by omega)
        obtain ⟨b2, off2, rfl, hb2, hc2⟩ := hb.2.2.2 (by omega)
        have hk1 := hc1 k hlt
        have hk2 := hc2 k (by omega)
        have hltb : k < b.length := by omega
        clear hc1 hc2 ha hb
        obtain ⟨x, hx⟩ : ∃ x, a[k]?.getD 0 = x := ⟨_, rfl⟩
        obtain ⟨y, hy⟩ : ∃ y, b[k]?.getD 0 = y := ⟨_, rfl⟩
        rw [hx] at hk1
        rw [hy] at hk2
        have Hx := Lib.hid hx
        have Hy := Lib.hid hy
        clear hx hy
        by_cases h1 : x = y
        · subst h1
          have t1 : (x != x) = false := by simp
          go_wp2_with (go_region)
          go_roundw
          case rel => exact ⟨k + 1, m + 1, by omega, by go_num, fun j hj => by
            by_cases e : j = k
            · rw [e, Hx.out, Hy.out]
            · exact H.out j (by omega), rfl⟩
          case measure => simp [intOf]; omega
        · have t1 : (x != y) = true := by simpa using h1
          go_wp2_with (go_region)
          go_ret
          refine ⟨by rw [hR.out, beq_eq_false_iff_ne.2 (fun e => h1 (by rw [← Hx.out, ← Hy.out, e]))]; rfl, m + 1, rfl⟩
      · obtain rfl : k = a.length := by omega
        go_wp2
        go_ret
        exact ⟨by rw [hR.out, beq_iff_eq.2 (eq_of_get hlen H.out)]; rfl, m, rfl⟩
  · have t0 : ((a.length : Int) != (b.length : Int)) = true := by rw [bne_iff_ne]; omega
    have hR' : R = false := by rw [hR.out]; exact beq_eq_false_iff_ne.2 (fun e => hlen (by rw [e]))
    clear hR
    subst hR'
    go_enter Tryd.func21, Tryd.ntmps21
    go_wp2
    go_ret
    exact ⟨rfl, 0, rfl⟩
theorem equal_any (p q : Option Addr) (cap cap2 n m : Nat) (a b : List Int) (w : World) (hn : n = a.length) (hm : m = b.length) (ha : Ints w p cap a) (hb : Ints w q cap2 b) (R : Bool) (hR0 : R = (a == b)) :
    Calls Tryd.prog 21 #[.slice p n cap, .slice q m cap2] w fun e w' => e = .returned (.bool R) ∧ Below w.heap.size w w' := by
  refine (equal_any_q p q cap cap2 n m a b w hn hm ha hb R hR0).mono ?_
  rintro e w' ⟨rfl, m, rfl⟩
  exact ⟨rfl, below_drewN (brefl w) m⟩
set_option maxHeartbeats 1000000 in
theorem equalFunc_any (p q : Option Addr) (cap cap2 n m : Nat) (a b : List (List Int)) (w : World) (hn : n = a.length) (hm : m = b.length) (ha : RowsI w p cap a) (hb : RowsI w q cap2 b) (R : Bool) (hR0 : R = (a == b)) :
    Calls Tryd.prog 20 #[.slice p n cap, .slice q m cap2, .func (.func 21) #[] #[]] w fun e w' => e = .returned (.bool R) ∧ Below w.heap.size w w' := by
  have hR := Lib.hid hR0
  clear hR0
  subst hn; subst hm
  have hla := ha.len_le
  have hlb := hb.len_le
  by_cases hlen : a.length = b.length
  · have t0 : ((a.length : Int) != (b.length : Int)) = false := by rw [hlen]; simp
    have HL := Lib.hid hlen
    clear hlen
    go_enter Tryd.func20, Tryd.ntmps20
    go_wp2
    go_loopw [17] (fun i wr => ∃ k : Nat, k ≤ a.length ∧ i = .int .i64 k ∧ Hid (∀ j : Nat, j < k → a[j]?.getD [] = b[j]?.getD []) ∧ Below w.heap.size w wr) (fun i _ => a.length - (intOf i).toNat)
    case atStart => exact ⟨0, Nat.zero_le _, rfl, fun j hj => absurd hj (Nat.not_lt_zero _), brefl _⟩
    case round =>
      obtain ⟨k, hk, rfl, H, hB⟩ := hrel
      have ha := ha.below hB
      have hb := hb.below hB
      by_cases hlt : k < a.length
      · obtain ⟨b1, off1, rfl, hb1, hc1⟩ := ha.2.2 (by omega)
        obtain ⟨b2, off2, rfl, hb2, hc2⟩ := hb.2.2 (by have := HL.out; omega)
        obtain ⟨p1, c1, hk1, hi1⟩ := hc1 k hlt
        obtain ⟨p2, c2, hk2, hi2⟩ := hc2 k (by rw [← HL.out]; exact hlt)
        have hltb : k < b.length := by rw [← HL.out]; exact hlt
        clear hc1 hc2 ha hb
        obtain ⟨x, hx⟩ : ∃ x, a[k]?.getD [] = x := ⟨_, rfl⟩
        obtain ⟨y, hy⟩ : ∃ y, b[k]?.getD [] = y := ⟨_, rfl⟩
        rw [hx] at hk1 hi1
        rw [hy] at hk2 hi2
        have Hx := Lib.hid hx
        have Hy := Lib.hid hy
        clear hx hy
        have hlx := hi1.len_le
        have hly := hi2.len_le
        have T := fun R hR => equal_any_q p1 p2 c1 c2 x.length y.length x y wr rfl rfl hi1 hi2 R hR
        by_cases h1 : x = y
        · subst h1
          have T1 := Lib.hid (T true (by rw [beq_self_eq_true]))
          clear T
          go_wp2_with fail
          refine T1.out.mono ?_; rintro e w1 ⟨rfl, mq, hw1⟩
          have HB2 := Lib.hid (show Below w.heap.size w w1 by rw [hw1]; exact below_drewN hB _)
          clear hw1 T1
          go_wp2_with fail
          go_roundw
          case rel => exact ⟨k + 1, by omega, by go_num, fun j hj => by
            by_cases e : j = k
            · rw [e, Hx.out, Hy.out]
            · exact H.out j (by omega), HB2.out⟩
          case measure => simp [intOf]; omega
        · have T1 := Lib.hid (T false (by rw [beq_eq_false_iff_ne.2 h1]))
          clear T
          go_wp2_with fail
          refine T1.out.mono ?_; rintro e w1 ⟨rfl, mq, hw1⟩
          have HB2 := Lib.hid (show Below w.heap.size w w1 by rw [hw1]; exact below_drewN hB _)
          clear hw1 T1
          go_wp2_with fail
          go_ret
          refine ⟨by rw [hR.out, beq_eq_false_iff_ne.2 (fun e => h1 (by rw [← Hx.out, ← Hy.out, e]))]; rfl, HB2.out⟩
      · obtain rfl : k = a.length := by omega
        go_wp2
        go_ret
        exact ⟨by rw [hR.out, beq_iff_eq.2 (eq_of_rows HL.out H.out)]; rfl, hB⟩
  · have t0 : ((a.length : Int) != (b.length : Int)) = true := by rw [bne_iff_ne]; omega
    have hR' : R = false := by rw [hR.out]; exact beq_eq_false_iff_ne.2 (fun e => hlen (by rw [e]))
    clear hR
    subst hR'
    go_enter Tryd.func20, Tryd.ntmps20
    go_wp2
    go_ret
    exact ⟨rfl, brefl _⟩
end Go.Proofs.YthggfkdpggfkbaaDoor.App
