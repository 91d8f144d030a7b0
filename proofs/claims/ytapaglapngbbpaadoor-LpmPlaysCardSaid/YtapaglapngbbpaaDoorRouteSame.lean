/- The statements' Routes. No statement is proved here. -/
import Derived.Test.YtapaglapngbbpaaDoorRoute
import Derived.Laws.StructEq
import Derived.BigQuiet
import Derived.RegionTactic
import Derived.Shelf.RegionOpenPlain
namespace Go.Proofs.YtapaglapngbbpaaDoor.Route
open Go.ChangeShapes Go.WideShapes Go.ChangeAt Go.RowKit Go.Proofs.YtapaglapngbbpaaDoor.Kit Go.Proofs.YtapaglapngbbpaaDoor.App Go.Proofs.YtapaglapngbbpaaDoor.Cells Go.Proofs.YtapaglapngbbpaaDoor.CidrMath Go.Proofs.YtapaglapngbbpaaDoor.RouteMath
set_option linter.unusedVariables false
set_option maxRecDepth 20000

theorem eqRt (a1 a2 a3 b1 b2 b3 : Int) (W : World) :
    (Op.equalIn 10000 38 (.agg #[.int .i64 a1, .int .i64 a2, .int .i64 a3]) (.agg #[.int .i64 b1, .int .i64 b2, .int .i64 b3])).run Tryd.prog W = .ok (a1 == b1 && a2 == b2 && a3 == b3) W := by
  have hS : Tryd.prog.underlying 38 = some (.struct (Tryd.prog.fieldsOf 38)) := by kernel_rfl
  have hp : Tryd.prog.stoodInHeld 38 = false := by kernel_rfl
  rw [show (10000 : Nat) = 9999 + 1 from rfl, run_equalIn_agg W 9999 38 _ _ hS hp]
  simp only [Program.fieldsOf, Tryd.underlying38]
  go_simp
  by_cases h1 : a1 = b1 <;> by_cases h2 : a2 = b2 <;> by_cases h3 : a3 = b3 <;> simp [h1, h2, h3]
set_option maxHeartbeats 1000000 in
theorem routes_any (p q : Option Addr) (cap cap2 n m : Nat) (a b : List Rt) (w : World) (hn : n = a.length) (hm : m = b.length) (ha : CI layR w p cap a) (hb : CI layR w q cap2 b) (R : Bool) (hR0 : R = true ↔ a = b) :
    Calls Tryd.prog 15 #[.slice p n cap, .slice q m cap2] w fun e w' => e = .returned (.bool R) ∧ ∃ m, w' = w.drewN m := by
  have hR := Lib.hid hR0
  have hgd : Tryd.prog.eqGuardType Tryd.prog.depth 38 = false := by kernel_rfl
  have hmix : Tryd.prog.follows .mixedOrders = true := by kernel_rfl
  clear hR0
  subst hn; subst hm
  have hla := ha.len_le
  have hlb := hb.len_le
  by_cases hlen : a.length = b.length
  · have t0 : ((a.length : Int) != (b.length : Int)) = false := by rw [hlen]; simp
    go_enter Tryd.func15, Tryd.ntmps15
    go_wp2
    go_loopw [5] (fun i wr => ∃ k m : Nat, k ≤ a.length ∧ i = .int .i64 k ∧ Hid (∀ j : Nat, j < k → a[j]? = b[j]?) ∧ wr = w.drewN m) (fun i _ => a.length - (intOf i).toNat)
    case atStart => exact ⟨0, 0, Nat.zero_le _, rfl, fun j hj => absurd hj (Nat.not_lt_zero _), rfl⟩
    case round =>
      obtain ⟨k, m, hk, rfl, H, rfl⟩ := hrel
      by_cases hlt : k < a.length
      · obtain ⟨b1, off1, rfl, hb1, hc1⟩ := ha.2.2 (by omega)
        obtain ⟨b2, off2, rfl, hb2, hc2⟩ := hb.2.2 (by omega)
        have hltb : k < b.length := by omega
        obtain ⟨⟨x1, x2, x3⟩, hx⟩ : ∃ x, a[k]? = some x := ⟨_, List.getElem?_eq_getElem hlt⟩
        obtain ⟨⟨y1, y2, y3⟩, hy⟩ : ∃ y, b[k]? = some y := ⟨_, List.getElem?_eq_getElem hltb⟩
        have hx0 : w.cell? ⟨b1, off1 + k * 3, none⟩ = some (.int .i64 x1) := hc1 k _ hx 0 _ rfl
        have hx1 : w.cell? ⟨b1, off1 + k * 3 + 1, none⟩ = some (.int .i64 x2) := hc1 k _ hx 1 _ rfl
        have hx2 : w.cell? ⟨b1, off1 + k * 3 + 2, none⟩ = some (.int .i64 x3) := hc1 k _ hx 2 _ rfl
        have hy0 : w.cell? ⟨b2, off2 + k * 3, none⟩ = some (.int .i64 y1) := hc2 k _ hy 0 _ rfl
        have hy1 : w.cell? ⟨b2, off2 + k * 3 + 1, none⟩ = some (.int .i64 y2) := hc2 k _ hy 1 _ rfl
        have hy2 : w.cell? ⟨b2, off2 + k * 3 + 2, none⟩ = some (.int .i64 y3) := hc2 k _ hy 2 _ rfl
        have Hx := Lib.hid hx
        have Hy := Lib.hid hy
        clear hc1 hc2 ha hb hx hy
        by_cases h1 : (x1 == y1 && x2 == y2 && x3 == y3) = true
        · have E : ∀ W, (Op.equalIn 10000 38 (.agg #[.int .i64 x1, .int .i64 x2, .int .i64 x3]) (.agg #[.int .i64 y1, .int .i64 y2, .int .i64 y3])).run Tryd.prog W = .ok true W := fun W => by rw [eqRt, h1]
          have e1 : x1 = y1 ∧ x2 = y2 ∧ x3 = y3 := by simpa [and_assoc] using h1
          have He := Lib.hid e1
          clear h1 e1
          go_wp2_with fail
          go_big_region_o
          go_wp2_with fail
          go_roundw
          case rel => exact ⟨k + 1, m + 1, by omega, by first | rfl | go_num, fun j hj => by
            by_cases e : j = k
            · rw [e, Hx.out, Hy.out, He.out.1, He.out.2.1, He.out.2.2]
            · exact H.out j (by omega), rfl⟩
          case measure => simp [intOf]; omega
        · have h1' : (x1 == y1 && x2 == y2 && x3 == y3) = false := by simpa using h1
          have E : ∀ W, (Op.equalIn 10000 38 (.agg #[.int .i64 x1, .int .i64 x2, .int .i64 x3]) (.agg #[.int .i64 y1, .int .i64 y2, .int .i64 y3])).run Tryd.prog W = .ok false W := fun W => by rw [eqRt, h1']
          have hR' : R = false := by
            cases R
            · rfl
            · exfalso
              have e := Option.some.inj (Hx.out.symm.trans ((by rw [hR.out.1 rfl] : a[k]? = b[k]?).trans Hy.out))
              injection e with e1 e2 e3
              rw [e1, e2, e3] at h1'
              simp at h1'
          clear hR h1 h1'
          subst hR'
          go_wp2_with fail
          go_big_region_o
          go_wp2_with fail
          go_ret
          exact ⟨rfl, m + 1, rfl⟩
      · obtain rfl : k = a.length := by omega
        have hR' : R = true := hR.out.2 (List.ext_getElem? fun j => by
          rcases Nat.lt_or_ge j a.length with h | h
          · exact H.out j h
          · rw [List.getElem?_eq_none h, List.getElem?_eq_none (by omega)])
        clear hR
        subst hR'
        go_wp2
        go_ret
        exact ⟨rfl, m, rfl⟩
  · have t0 : ((a.length : Int) != (b.length : Int)) = true := by rw [bne_iff_ne]; omega
    have hR' : R = false := by
      cases R
      · rfl
      · exact absurd (by rw [hR.out.1 rfl]) hlen
    clear hR
    subst hR'
    go_enter Tryd.func15, Tryd.ntmps15
    go_wp2
    go_ret
    exact ⟨rfl, 0, rfl⟩
end Go.Proofs.YtapaglapngbbpaaDoor.Route
