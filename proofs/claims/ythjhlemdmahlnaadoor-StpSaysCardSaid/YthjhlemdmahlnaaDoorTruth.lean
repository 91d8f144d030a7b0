/- Slices of truths, compared: the statements' Bools (XTru holds the rest). No statement is proved here. -/
import Derived.Test.YthjhlemdmahlnaaDoorTru
import Derived.BigQuiet
import Derived.RegionTactic
namespace Go.Proofs.YthjhlemdmahlnaaDoor.Truth
open Go.ChangeShapes Go.WideShapes Go.ChangeAt Go.RowKit Go.Proofs.YthjhlemdmahlnaaDoor.Kit Go.Proofs.YthjhlemdmahlnaaDoor.App Go.Proofs.YthjhlemdmahlnaaDoor.Err Go.Proofs.YthjhlemdmahlnaaDoor.Cells
set_option linter.unusedVariables false
set_option maxRecDepth 20000

variable {w w' : World} {base g n cap : Nat} {v : Value} {p : Option Addr} {u : List Bool}
set_option maxHeartbeats 1000000 in
theorem bools_any (p q : Option Addr) (cap cap2 n m : Nat) (a b : List Bool) (w : World) (hn : n = a.length) (hm : m = b.length) (ha : Tru w p cap a) (hb : Tru w q cap2 b) (R : Bool) (hR0 : R = (a == b)) :
    Calls Tryd.prog 12 #[.slice p n cap, .slice q m cap2] w fun e w' => e = .returned (.bool R) ∧ ∃ m, w' = w.drewN m := by
  have hR := Lib.hid hR0
  clear hR0
  subst hn; subst hm
  have hla := ha.len_le
  have hlb := hb.len_le
  have HA := Lib.hid ha
  have HB := Lib.hid hb
  clear ha hb
  by_cases hlen : a.length = b.length
  · have t0 : ((a.length : Int) != (b.length : Int)) = false := by rw [hlen]; simp
    obtain ⟨N, hN⟩ : ∃ N, a.length = N := ⟨_, rfl⟩
    have HL := Lib.hid hlen
    have HN := Lib.hid hN
    rw [← hlen, hN] at t0 ⊢
    rw [hN] at hla
    clear hlb hlen hN
    go_enter Tryd.func12, Tryd.ntmps12
    go_wp2
    go_loopw [5] (fun i wr => ∃ k m : Nat, k ≤ N ∧ i = .int .i64 k ∧ Hid (∀ j : Nat, j < k → a[j]? = b[j]?) ∧ wr = w.drewN m) (fun i _ => N - (intOf i).toNat)
    case atStart => exact ⟨0, 0, Nat.zero_le _, rfl, fun j hj => absurd hj (Nat.not_lt_zero _), rfl⟩
    case round =>
      obtain ⟨k, m, hk, rfl, H, rfl⟩ := hrel
      by_cases hlt : k < N
      · have hlt2 : k < a.length := by have := HN.out; omega
        have hlt3 : k < b.length := by have := HN.out; have := HL.out; omega
        obtain ⟨b1, off1, rfl, hb1, hc1⟩ := HA.out.at (by omega)
        obtain ⟨b2, off2, rfl, hb2, hc2⟩ := HB.out.at (by omega)
        obtain ⟨x, hx⟩ : ∃ x, a[k]? = some x := ⟨_, List.getElem?_eq_getElem hlt2⟩
        obtain ⟨y, hy⟩ : ∃ y, b[k]? = some y := ⟨_, List.getElem?_eq_getElem hlt3⟩
        have hk1 := hc1 w (brefl w) k x hx
        have hk2 := hc2 w (brefl w) k y hy
        have Hx := Lib.hid hx
        have Hy := Lib.hid hy
        clear hc1 hc2 hx hy hlt2 hlt3
        by_cases h1 : x = y
        · subst h1
          have t1 : (x == x) = true := by simp
          go_wp2_with (go_region)
          go_roundw
          case rel => exact ⟨k + 1, m + 1, by omega, by go_num, fun j hj => by
            by_cases e : j = k
            · rw [e, Hx.out, Hy.out]
            · exact H.out j (by omega), rfl⟩
          case measure => simp [intOf]; omega
        · have t1 : (x == y) = false := by simpa using h1
          have HNE := Lib.hid (show a ≠ b from fun e => h1 (by have h2 := Hx.out; rw [e] at h2; rw [Hy.out] at h2; exact (Option.some.inj h2).symm))
          clear h1
          go_wp2_with (go_region)
          go_ret
          refine ⟨by rw [hR.out, beq_eq_false_iff_ne.2 HNE.out]; rfl, m + 1, rfl⟩
      · obtain rfl : k = N := by omega
        go_wp2
        go_ret
        exact ⟨by rw [hR.out, beq_iff_eq.2 (eq_of_truth HL.out (by rw [HN.out]; exact H.out))]; rfl, m, rfl⟩
  · have t0 : ((a.length : Int) != (b.length : Int)) = true := by rw [bne_iff_ne]; omega
    have hR' : R = false := by rw [hR.out]; exact beq_eq_false_iff_ne.2 (fun e => hlen (by rw [e]))
    clear hR
    subst hR'
    go_enter Tryd.func12, Tryd.ntmps12
    go_wp2
    go_ret
    exact ⟨rfl, 0, rfl⟩
end Go.Proofs.YthjhlemdmahlnaaDoor.Truth
