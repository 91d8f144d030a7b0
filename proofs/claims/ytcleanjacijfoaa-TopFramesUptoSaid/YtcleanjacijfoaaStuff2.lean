/- Contracts of the comparisons of lists of numbers. No statement is proved here. -/
import Derived.Test.YtcleanjacijfoaaStuff1
import Derived.BigQuiet
import Derived.RegionTactic
namespace Go.Proofs.Ytcleanjacijfoaa.Stuff
open Go.ChangeShapes Go.WideShapes Go.ChangeAt Go.RowKit
open Go.Proofs.Ytcleanjacijfoaa.Kit Go.Proofs.Ytcleanjacijfoaa.App Go.Proofs.Ytcleanjacijfoaa.StuffMath
set_option linter.unusedVariables false

theorem below_drewN {B : Nat} {a w : World} (h : Below B a w) (n : Nat) : Below B a (w.drewN n) := h.trans ⟨rfl, rfl, rfl, Nat.le_refl _, fun _ _ => rfl⟩

theorem eq_of_get {a b : List Int} (hl : a.length = b.length) (h : ∀ j : Nat, j < a.length → a[j]?.getD 0 = b[j]?.getD 0) : a = b := by
  refine List.ext_getElem hl fun j h1 h2 => ?_
  have := h j h1
  rwa [List.getElem?_eq_getElem h1, List.getElem?_eq_getElem h2] at this

set_option maxHeartbeats 1000000 in
theorem ints_any_q (p q : Option Addr) (cap cap2 n m : Nat) (a b : List Int) (w : World) (hn : n = a.length) (hm : m = b.length) (ha : Ints w p cap a) (hb : Ints w q cap2 b) (R : Bool) (hR0 : R = (a == b)) :
    Calls Try.prog 15 #[.slice p n cap, .slice q m cap2] w fun e w' => e = .returned (.bool R) ∧ ∃ m, w' = w.drewN m := by
  have hR := Lib.hid hR0
  clear hR0
  subst hn; subst hm
  have hla := ha.len_le
  have hlb := hb.len_le
  by_cases hlen : a.length = b.length
  · have t0 : ((a.length : Int) != (b.length : Int)) = false := by rw [hlen]; simp
    go_enter Try.func15, Try.ntmps15
    go_wp2
    go_loopw [5] (fun i wr => ∃ k m : Nat, k ≤ a.length ∧ i = .int .i64 k ∧ Hid (∀ j : Nat, j < k → a[j]?.getD 0 = b[j]?.getD 0) ∧ wr = w.drewN m) (fun i _ => a.length - (intOf i).toNat)
    case atStart => exact ⟨0, 0, Nat.zero_le _, rfl, fun j hj => absurd hj (Nat.not_lt_zero _), rfl⟩
    case round =>
      obtain ⟨k, m, hk, rfl, H, rfl⟩ := hrel
      by_cases hlt : k < a.length
      · obtain ⟨b1, off1, rfl, hb1, hc1⟩ := ha.2.2.2 (by omega)
        obtain ⟨b2, off2, rfl, hb2, hc2⟩ := hb.2.2.2 (by omega)
        have hk1 := hc1 k hlt
        have hk2 := hc2 k (by omega)
        have hltb : k < b.length := by omega
        clear hc1 hc2 ha hb
        obtain ⟨x, hx⟩ : ∃ x, a[k]?.getD 0 = x := ⟨_, rfl⟩
        obtain ⟨y, hy⟩ : ∃ y, b[k]?.getD 0 = y := ⟨_, rfl⟩
        rw [hx] at hk1
        rw [hy] at hk2
        have Hx := Lib.hid hx
        have Hy := Lib.hid hy
        clear hx hy
        by_cases h1 : x = y
        · subst h1
          have t1 : (x != x) = false := by simp
          go_wp2_with (go_region)
          go_roundw
          case rel => exact ⟨k + 1, m + 1, by omega, by go_num, fun j hj => by
            by_cases e : j = k
            · rw [e, Hx.out, Hy.out]
            · exact H.out j (by omega), rfl⟩
          case measure => simp [intOf]; omega
        · have t1 : (x != y) = true := by simpa using h1
          go_wp2_with (go_region)
          go_ret
          refine ⟨by rw [hR.out, beq_eq_false_iff_ne.2 (fun e => h1 (by rw [← Hx.out, ← Hy.out, e]))]; rfl, m + 1, rfl⟩
      · obtain rfl : k = a.length := by omega
        go_wp2
        go_ret
        exact ⟨by rw [hR.out, beq_iff_eq.2 (eq_of_get hlen H.out)]; rfl, m, rfl⟩
  · have t0 : ((a.length : Int) != (b.length : Int)) = true := by rw [bne_iff_ne]; omega
    have hR' : R = false := by rw [hR.out]; exact beq_eq_false_iff_ne.2 (fun e => hlen (by rw [e]))
    clear hR
    subst hR'
    go_enter Try.func15, Try.ntmps15
    go_wp2
    go_ret
    exact ⟨rfl, 0, rfl⟩
theorem ints_any (p q : Option Addr) (cap cap2 n m : Nat) (a b : List Int) (w : World) (hn : n = a.length) (hm : m = b.length) (ha : Ints w p cap a) (hb : Ints w q cap2 b) (R : Bool) (hR0 : R = (a == b)) :
    Calls Try.prog 15 #[.slice p n cap, .slice q m cap2] w fun e w' => e = .returned (.bool R) ∧ Below w.heap.size w w' := by
  refine (ints_any_q p q cap cap2 n m a b w hn hm ha hb R hR0).mono ?_
  rintro e w' ⟨rfl, m, rfl⟩
  exact ⟨rfl, below_drewN (brefl w) m⟩

set_option maxHeartbeats 1000000 in
theorem equal_any_q (p q : Option Addr) (cap cap2 n m : Nat) (a b : List Int) (w : World) (hn : n = a.length) (hm : m = b.length) (ha : Ints w p cap a) (hb : Ints w q cap2 b) (R : Bool) (hR0 : R = (a == b)) :
    Calls Try.prog 27 #[.slice p n cap, .slice q m cap2] w fun e w' => e = .returned (.bool R) ∧ ∃ m, w' = w.drewN m := by
  have hR := Lib.hid hR0
  clear hR0
  subst hn; subst hm
  have hla := ha.len_le
  have hlb := hb.len_le
  by_cases hlen : a.length = b.length
  · have t0 : ((a.length : Int) != (b.length : Int)) = false := by rw [hlen]; simp
    go_enter Try.func27, Try.ntmps27
    go_wp2
    go_loopw [13] (fun i wr => ∃ k m : Nat, k ≤ a.length ∧ i = .int .i64 k ∧ Hid (∀ j : Nat, j < k → a[j]?.getD 0 = b[j]?.getD 0) ∧ wr = w.drewN m) (fun i _ => a.length - (intOf i).toNat)
    case atStart => exact ⟨0, 0, Nat.zero_le _, rfl, fun j hj => absurd hj (Nat.not_lt_zero _), rfl⟩
    case round =>
      obtain ⟨k, m, hk, rfl, H, rfl⟩ := hrel
      by_cases hlt : k < a.length
      · obtain ⟨b1, off1, rfl, hb1, hc1⟩ := ha.2.2.2 (by omega)
        obtain ⟨b2, off2, rfl, hb2, hc2⟩ := hb.2.2.2 (by omega)
        have hk1 := hc1 k hlt
        have hk2 := hc2 k (by omega)
        have hltb : k < b.length := by omega
        clear hc1 hc2 ha hb
        obtain ⟨x, hx⟩ : ∃ x, a[k]?.getD 0 = x := ⟨_, rfl⟩
        obtain ⟨y, hy⟩ : ∃ y, b[k]?.getD 0 = y := ⟨_, rfl⟩
        rw [hx] at hk1
        rw [hy] at hk2
        have Hx := Lib.hid hx
        have Hy := Lib.hid hy
        clear hx hy
        by_cases h1 : x = y
        · subst h1
          have t1 : (x != x) = false := by simp
          go_wp2_with (go_region)
          go_roundw
          case rel => exact ⟨k + 1, m + 1, by omega, by go_num, fun j hj => by
            by_cases e : j = k
            · rw [e, Hx.out, Hy.out]
            · exact H.out j (by omega), rfl⟩
          case measure => simp [intOf]; omega
        · have t1 : (x != y) = true := by simpa using h1
          go_wp2_with (go_region)
          go_ret
          refine ⟨by rw [hR.out, beq_eq_false_iff_ne.2 (fun e => h1 (by rw [← Hx.out, ← Hy.out, e]))]; rfl, m + 1, rfl⟩
      · obtain rfl : k = a.length := by omega
        go_wp2
        go_ret
        exact ⟨by rw [hR.out, beq_iff_eq.2 (eq_of_get hlen H.out)]; rfl, m, rfl⟩
  · have t0 : ((a.length : Int) != (b.length : Int)) = true := by rw [bne_iff_ne]; omega
    have hR' : R = false := by rw [hR.out]; exact beq_eq_false_iff_ne.2 (fun e => hlen (by rw [e]))
    clear hR
    subst hR'
    go_enter Try.func27, Try.ntmps27
    go_wp2
    go_ret
    exact ⟨rfl, 0, rfl⟩
theorem equal_any (p q : Option Addr) (cap cap2 n m : Nat) (a b : List Int) (w : World) (hn : n = a.length) (hm : m = b.length) (ha : Ints w p cap a) (hb : Ints w q cap2 b) (R : Bool) (hR0 : R = (a == b)) :
    Calls Try.prog 27 #[.slice p n cap, .slice q m cap2] w fun e w' => e = .returned (.bool R) ∧ Below w.heap.size w w' := by
  refine (equal_any_q p q cap cap2 n m a b w hn hm ha hb R hR0).mono ?_
  rintro e w' ⟨rfl, m, rfl⟩
  exact ⟨rfl, below_drewN (brefl w) m⟩
end Go.Proofs.Ytcleanjacijfoaa.Stuff
