/- Contracts of the comparisons of lists of numbers. No statement is proved here. -/
import Derived.Test.YtfgkbogccaiceaaStuff1
import Derived.BigQuiet
import Derived.RegionTactic
namespace Go.Proofs.Ytfgkbogccaiceaa.Stuff
open Go.ChangeShapes Go.WideShapes Go.ChangeAt Go.RowKit
open Go.Proofs.Ytfgkbogccaiceaa.Kit Go.Proofs.Ytfgkbogccaiceaa.App Go.Proofs.Ytfgkbogccaiceaa.StuffMath
set_option linter.unusedVariables false

theorem eq_of_get {a b : List Int} (hl : a.length = b.length) (h : ∀ j : Nat, j < a.length → a[j]?.getD 0 = b[j]?.getD 0) : a = b := by
  refine List.ext_getElem hl fun j h1 h2 => ?_
  have := h j h1
  rwa [List.getElem?_eq_getElem h1, List.getElem?_eq_getElem h2] at this

set_option maxHeartbeats 1000000 in
theorem ints_any (p q : Option Addr) (cap cap2 n m : Nat) (a b : List Int) (w : World) (hn : n = a.length) (hm : m = b.length) (ha : Ints w p cap a) (hb : Ints w q cap2 b) (R : Bool) (hR0 : R = (a == b)) :
    Calls Try.prog 9 #[.slice p n cap, .slice q m cap2] w fun e w' => e = .returned (.bool R) ∧ Below w.heap.size w w' := by
  have hR := Lib.hid hR0
  clear hR0
  subst hn; subst hm
  have hla := ha.len_le
  have hlb := hb.len_le
  by_cases hlen : a.length = b.length
  · have t0 : ((a.length : Int) != (b.length : Int)) = false := by rw [hlen]; simp
    go_enter Try.func9, Try.ntmps9
    go_wp2
    go_loopw [5] (fun i wr => ∃ k : Nat, k ≤ a.length ∧ i = .int .i64 k ∧ Hid (∀ j : Nat, j < k → a[j]?.getD 0 = b[j]?.getD 0) ∧ Below w.heap.size w wr) (fun i _ => a.length - (intOf i).toNat)
    case atStart => exact ⟨0, Nat.zero_le _, rfl, fun j hj => absurd hj (Nat.not_lt_zero _), brefl _⟩
    case round =>
      obtain ⟨k, hk, rfl, H, hB⟩ := hrel
      by_cases hlt : k < a.length
      · obtain ⟨b1, off1, rfl, hb1, hc1⟩ := ha.2.2.2 (by omega)
        obtain ⟨b2, off2, rfl, hb2, hc2⟩ := hb.2.2.2 (by omega)
        have hk1 := (hB.cell (p := ⟨b1, off1 + k, none⟩) hb1).trans (hc1 k hlt)
        have hk2 := (hB.cell (p := ⟨b2, off2 + k, none⟩) hb2).trans (hc2 k (by omega))
        have hltb : k < b.length := by omega
        clear hc1 hc2 ha hb
        obtain ⟨x, hx⟩ : ∃ x, a[k]?.getD 0 = x := ⟨_, rfl⟩
        obtain ⟨y, hy⟩ : ∃ y, b[k]?.getD 0 = y := ⟨_, rfl⟩
        rw [hx] at hk1
        rw [hy] at hk2
        have Hx := Lib.hid hx
        have Hy := Lib.hid hy
        clear hx hy
        by_cases h1 : x = y
        · subst h1
          have t1 : (x != x) = false := by simp
          go_wp2_with (go_region)
          go_roundw
          case rel => exact ⟨k + 1, by omega, by go_num, fun j hj => by
            by_cases e : j = k
            · rw [e, Hx.out, Hy.out]
            · exact H.out j (by omega), hB.drew⟩
          case measure => simp [intOf]; omega
        · have t1 : (x != y) = true := by simpa using h1
          go_wp2_with (go_region)
          go_ret
          refine ⟨by rw [hR.out, beq_eq_false_iff_ne.2 (fun e => h1 (by rw [← Hx.out, ← Hy.out, e]))]; rfl, hB.drew⟩
      · obtain rfl : k = a.length := by omega
        go_wp2
        go_ret
        exact ⟨by rw [hR.out, beq_iff_eq.2 (eq_of_get hlen H.out)]; rfl, hB⟩
  · have t0 : ((a.length : Int) != (b.length : Int)) = true := by rw [bne_iff_ne]; omega
    have hR' : R = false := by rw [hR.out]; exact beq_eq_false_iff_ne.2 (fun e => hlen (by rw [e]))
    clear hR
    subst hR'
    go_enter Try.func9, Try.ntmps9
    go_wp2
    go_ret
    exact ⟨rfl, brefl _⟩

set_option maxHeartbeats 1000000 in
theorem equal_any (p q : Option Addr) (cap cap2 n m : Nat) (a b : List Int) (w : World) (hn : n = a.length) (hm : m = b.length) (ha : Ints w p cap a) (hb : Ints w q cap2 b) (R : Bool) (hR0 : R = (a == b)) :
    Calls Try.prog 19 #[.slice p n cap, .slice q m cap2] w fun e w' => e = .returned (.bool R) ∧ Below w.heap.size w w' := by
  have hR := Lib.hid hR0
  clear hR0
  subst hn; subst hm
  have hla := ha.len_le
  have hlb := hb.len_le
  by_cases hlen : a.length = b.length
  · have t0 : ((a.length : Int) != (b.length : Int)) = false := by rw [hlen]; simp
    go_enter Try.func19, Try.ntmps19
    go_wp2
    go_loopw [13] (fun i wr => ∃ k : Nat, k ≤ a.length ∧ i = .int .i64 k ∧ Hid (∀ j : Nat, j < k → a[j]?.getD 0 = b[j]?.getD 0) ∧ Below w.heap.size w wr) (fun i _ => a.length - (intOf i).toNat)
    case atStart => exact ⟨0, Nat.zero_le _, rfl, fun j hj => absurd hj (Nat.not_lt_zero _), brefl _⟩
    case round =>
      obtain ⟨k, hk, rfl, H, hB⟩ := hrel
      by_cases hlt : k < a.length
      · obtain ⟨b1, off1, rfl, hb1, hc1⟩ := ha.2.2.2 (by omega)
        obtain ⟨b2, off2, rfl, hb2, hc2⟩ := hb.2.2.2 (by omega)
        have hk1 := (hB.cell (p := ⟨b1, off1 + k, none⟩) hb1).trans (hc1 k hlt)
        have hk2 := (hB.cell (p := ⟨b2, off2 + k, none⟩) hb2).trans (hc2 k (by omega))
        have hltb : k < b.length := by omega
        clear hc1 hc2 ha hb
        obtain ⟨x, hx⟩ : ∃ x, a[k]?.getD 0 = x := ⟨_, rfl⟩
        obtain ⟨y, hy⟩ : ∃ y, b[k]?.getD 0 = y := ⟨_, rfl⟩
        rw [hx] at hk1
        rw [hy] at hk2
        have Hx := Lib.hid hx
        have Hy := Lib.hid hy
        clear hx hy
        by_cases h1 : x = y
        · subst h1
          have t1 : (x != x) = false := by simp
          go_wp2_with (go_region)
          go_roundw
          case rel => exact ⟨k + 1, by omega, by go_num, fun j hj => by
            by_cases e : j = k
            · rw [e, Hx.out, Hy.out]
            · exact H.out j (by omega), hB.drew⟩
          case measure => simp [intOf]; omega
        · have t1 : (x != y) = true := by simpa using h1
          go_wp2_with (go_region)
          go_ret
          refine ⟨by rw [hR.out, beq_eq_false_iff_ne.2 (fun e => h1 (by rw [← Hx.out, ← Hy.out, e]))]; rfl, hB.drew⟩
      · obtain rfl : k = a.length := by omega
        go_wp2
        go_ret
        exact ⟨by rw [hR.out, beq_iff_eq.2 (eq_of_get hlen H.out)]; rfl, hB⟩
  · have t0 : ((a.length : Int) != (b.length : Int)) = true := by rw [bne_iff_ne]; omega
    have hR' : R = false := by rw [hR.out]; exact beq_eq_false_iff_ne.2 (fun e => hlen (by rw [e]))
    clear hR
    subst hR'
    go_enter Try.func19, Try.ntmps19
    go_wp2
    go_ret
    exact ⟨rfl, brefl _⟩
end Go.Proofs.Ytfgkbogccaiceaa.Stuff
