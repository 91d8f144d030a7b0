/- The contract of the statements' comparison of lists of fragments. No statement is proved here. -/
import Derived.Test.YtaflpdagehocfaaDoorPart
namespace Go.Proofs.YtaflpdagehocfaaDoor.Part
open Go.ChangeShapes Go.WideShapes Go.ChangeAt Go.RowKit Go.Proofs.YtaflpdagehocfaaDoor.Kit Go.Proofs.YtaflpdagehocfaaDoor.App Go.Proofs.YtaflpdagehocfaaDoor.Cells
set_option linter.unusedVariables false
set_option maxRecDepth 20000

set_option maxHeartbeats 1000000 in
theorem parts_any (p q : Option Addr) (cap cap2 n m : Nat) (a b : List Prt) (w : World) (hn : n = a.length) (hm : m = b.length) (ha : CI lay w p cap a) (hb : CI lay w q cap2 b) (R : Bool) (hR0 : R = true ↔ a = b) :
    Calls Tryd.prog 8 #[.slice p n cap, .slice q m cap2] w fun e w' => e = .returned (.bool R) ∧ ∃ m, w' = w.drewN m := by
  have hR := Lib.hid hR0
  clear hR0
  subst hn; subst hm
  have hla := ha.len_le
  have hlb := hb.len_le
  by_cases hlen : a.length = b.length
  · have t0 : ((a.length : Int) != (b.length : Int)) = false := by rw [hlen]; simp
    go_enter Tryd.func8, Tryd.ntmps8
    go_wp2
    go_loopw [5] (fun i wr => ∃ k m : Nat, k ≤ a.length ∧ i = .int .i64 k ∧ Hid (∀ j : Nat, j < k → a[j]? = b[j]?) ∧ wr = w.drewN m) (fun i _ => a.length - (intOf i).toNat)
    case atStart => exact ⟨0, 0, Nat.zero_le _, rfl, fun j hj => absurd hj (Nat.not_lt_zero _), rfl⟩
    case round =>
      obtain ⟨k, m, hk, rfl, H, rfl⟩ := hrel
      by_cases hlt : k < a.length
      · obtain ⟨b1, off1, rfl, hb1, hc1⟩ := ha.2.2 (by omega)
        obtain ⟨b2, off2, rfl, hb2, hc2⟩ := hb.2.2 (by omega)
        have hltb : k < b.length := by omega
        obtain ⟨x, hx⟩ : ∃ x, a[k]? = some x := ⟨_, List.getElem?_eq_getElem hlt⟩
        obtain ⟨y, hy⟩ : ∃ y, b[k]? = some y := ⟨_, List.getElem?_eq_getElem hltb⟩
        have hx0 : w.cell? ⟨b1, off1 + k * 3, none⟩ = some (.int .i64 x.pos) := hc1 k x hx 0 _ rfl
        have hx1 : w.cell? ⟨b1, off1 + k * 3 + 1, none⟩ = some (.bool x.more) := hc1 k x hx 1 _ rfl
        have hx2 : w.cell? ⟨b1, off1 + k * 3 + 2, none⟩ = some (.string x.dat) := hc1 k x hx 2 _ rfl
        have hy0 : w.cell? ⟨b2, off2 + k * 3, none⟩ = some (.int .i64 y.pos) := hc2 k y hy 0 _ rfl
        have hy1 : w.cell? ⟨b2, off2 + k * 3 + 1, none⟩ = some (.bool y.more) := hc2 k y hy 1 _ rfl
        have hy2 : w.cell? ⟨b2, off2 + k * 3 + 2, none⟩ = some (.string y.dat) := hc2 k y hy 2 _ rfl
        have Hx := Lib.hid hx
        have Hy := Lib.hid hy
        clear hc1 hc2 ha hb hx hy
        by_cases h1 : x = y
        · subst h1
          go_wp2_with (go_region)
          go_roundw
          case rel => exact ⟨k + 1, m + 1, by omega, by go_num, fun j hj => by
            by_cases e : j = k
            · rw [e, Hx.out, Hy.out]
            · exact H.out j (by omega), rfl⟩
          case measure => simp [intOf]; omega
        · have hR' : R = false := by
            cases R
            · rfl
            · exact absurd (Option.some.inj (Hx.out.symm.trans ((by rw [hR.out.1 rfl] : a[k]? = b[k]?).trans Hy.out))) h1
          clear hR
          subst hR'
          rcases unlike h1 with h2 | ⟨h2, h3⟩ | ⟨h2, h3, h4⟩
          · clear h1
            go_wp2_with (go_region)
            go_ret
            exact ⟨rfl, m + 1, rfl⟩
          · clear h1
            go_wp2_with (go_region)
            go_ret
            exact ⟨rfl, m + 1, rfl⟩
          · clear h1
            go_wp2_with (go_region)
            go_ret
            exact ⟨rfl, m + 1, rfl⟩
      · obtain rfl : k = a.length := by omega
        have hR' : R = true := hR.out.2 (List.ext_getElem? fun j => by
          rcases Nat.lt_or_ge j a.length with h | h
          · exact H.out j h
          · rw [List.getElem?_eq_none h, List.getElem?_eq_none (by omega)])
        clear hR
        subst hR'
        go_wp2
        go_ret
        exact ⟨rfl, m, rfl⟩
  · have t0 : ((a.length : Int) != (b.length : Int)) = true := by rw [bne_iff_ne]; omega
    have hR' : R = false := by
      cases R
      · rfl
      · exact absurd (by rw [hR.out.1 rfl]) hlen
    clear hR
    subst hR'
    go_enter Tryd.func8, Tryd.ntmps8
    go_wp2
    go_ret
    exact ⟨rfl, 0, rfl⟩
end Go.Proofs.YtaflpdagehocfaaDoor.Part
