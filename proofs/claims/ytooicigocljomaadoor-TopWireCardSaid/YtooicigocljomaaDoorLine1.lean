/- Contracts of check, Five of package line. No statement is proved here. -/
import Derived.Test.YtooicigocljomaaDoorSub
import Derived.Test.YtooicigocljomaaDoorLineMath
import Derived.RegionTactic
namespace Go.Proofs.YtooicigocljomaaDoor.Line
open Go.ChangeShapes Go.WideShapes Go.ChangeAt Go.RowKit
open Go.Proofs.YtooicigocljomaaDoor.Kit Go.Proofs.YtooicigocljomaaDoor.App Go.Proofs.YtooicigocljomaaDoor.LineMath
set_option linter.unusedVariables false
set_option maxRecDepth 20000

theorem wf_bit {x : Int} (h0 : 0 ≤ x) (h1 : x ≤ 1) : (Lit.int .i64 x).wf = true := by
  simp [Lit.wf, IntKind.min, IntKind.max, IntKind.signed, IntKind.bits]; omega

/-- The variable of codes holds them. -/
def Codes (w : World) : Prop := ∃ t, w.heap[0]? = some (.cells (tab.map (Value.int .i64)).toArray t (0, 0))
theorem Codes.lt {w : World} (h : Codes w) : 0 < w.heap.size := by
  obtain ⟨t, h⟩ := h
  exact (Array.getElem?_eq_some_iff.1 h).1
theorem Codes.keep {w w' : World} (h : Codes w) (hk : w'.heap[0]? = w.heap[0]?) : Codes w' := by
  obtain ⟨t, h⟩ := h
  exact ⟨t, hk.trans h⟩
theorem Codes.below {w w' : World} (h : Codes w) (hb : Below w.heap.size w w') : Codes w' := h.keep (hb.block _ h.lt)
theorem Codes.cell {w : World} (h : Codes w) (i : Nat) (hi : i < 80) : w.cell? ⟨0, i, none⟩ = some (.int .i64 (tab[i]?.getD 0)) := by
  obtain ⟨t, h⟩ := h
  rw [cell_of_row w _ i _ t _ h]
  have hl : tab.length = 80 := rfl
  rw [List.getElem?_toArray, List.getElem?_map, List.getElem?_eq_getElem (by omega)]
  rfl

theorem check_full (lim : Nat) (hi : Int) (p : Option Addr) (cap n : Nat) (l : List Int) (w : World) (hn : n = l.length) (h : Ints w p cap l) (hm : lim ≤ 10000) (hl : lim < l.length) :
    Calls Tryd.prog 26 #[.slice p n cap, .int .i64 lim, .int .i64 hi] w fun e w' => e = .returned (.iface 45 (.int .i64 4)) ∧ w = w' := by
  subst hn
  have hlen := h.len_le
  have t0 : decide ((l.length : Int) > (lim : Int)) = true := decide_eq_true (by omega)
  go_enter Tryd.func26, Tryd.ntmps26
  go_wp2
  go_ret
  exact ⟨rfl, rfl⟩

set_option maxHeartbeats 400000 in
theorem check_loop (lim : Nat) (hi : Int) (p : Option Addr) (cap n : Nat) (l : List Int) (w : World) (hn : n = l.length) (h : Ints w p cap l) (hm : lim ≤ 10000) (hl : l.length ≤ lim) (R : Value) (hR0 : R = if upto hi l = true then .nilIface else .iface 45 (.int .i64 1)) :
    Calls Tryd.prog 26 #[.slice p n cap, .int .i64 lim, .int .i64 hi] w fun e w' => e = .returned R ∧ w = w' := by
  subst hn
  have hR := Lib.hid hR0
  clear hR0
  have hlen := h.len_le
  have t0 : decide ((l.length : Int) > (lim : Int)) = false := decide_eq_false (by omega)
  go_enter Tryd.func26, Tryd.ntmps26
  go_wp2
  go_loop [16] (fun i => ∃ k : Nat, k ≤ l.length ∧ i = .int .i64 k ∧ Hid (∀ j : Nat, j < k → 0 ≤ l[j]?.getD 0 ∧ l[j]?.getD 0 ≤ hi)) (fun i => l.length - (intOf i).toNat)
  case atStart => exact ⟨0, Nat.zero_le _, rfl, fun j hj => absurd hj (Nat.not_lt_zero _)⟩
  case round =>
    obtain ⟨k, hk, rfl, H⟩ := hrel
    by_cases hlt : k < l.length
    · obtain ⟨b, off, rfl, _, hc⟩ := h.2.2.2 (by omega)
      have hck := hc k hlt
      clear hc h
      obtain ⟨x, hx⟩ : ∃ x, l[k]?.getD 0 = x := ⟨_, rfl⟩
      rw [hx] at hck
      have Hx := Lib.hid hx
      clear hx
      by_cases h1 : x < 0
      · have t1 : decide (x < 0) = true := decide_eq_true h1
        go_wp2
        go_ret
        exact ⟨by rw [hR.out, upto_false (k := k) hlt (by rw [Hx.out]; omega)]; rfl, rfl⟩
      · have t1 : decide (x < 0) = false := decide_eq_false h1
        by_cases h2 : x > hi
        · have t2 : decide (x > hi) = true := decide_eq_true h2
          go_wp2
          go_ret
          exact ⟨by rw [hR.out, upto_false (k := k) hlt (by rw [Hx.out]; omega)]; rfl, rfl⟩
        · have t2 : decide (x > hi) = false := decide_eq_false h2
          go_wp2
          go_round
          case rel => exact ⟨k + 1, by omega, by go_num, fun j hj => by
            by_cases e : j = k
            · rw [e, Hx.out]; omega
            · exact H.out j (by omega)⟩
          case measure => simp [intOf]; omega
    · obtain rfl : k = l.length := by omega
      go_wp2
      go_ret
      exact ⟨by rw [hR.out, upto_of H.out]; rfl, rfl⟩

theorem check_bad (lim : Nat) (hi : Int) (p : Option Addr) (cap n : Nat) (l : List Int) (w : World) (hn : n = l.length) (h : Ints w p cap l) (hm : lim ≤ 10000) (m : Int) (hm2 : bad lim hi l = m) (h0 : m ≠ 0) :
    Calls Tryd.prog 26 #[.slice p n cap, .int .i64 lim, .int .i64 hi] w fun e w' => e = .returned (.iface 45 (.int .i64 m)) ∧ w = w' := by
  subst hm2
  by_cases h1 : lim < l.length
  · rw [show bad lim hi l = 4 by unfold bad; rw [if_pos h1]]
    exact check_full lim hi p cap n l w hn h hm h1
  · have hb : upto hi l = false := by
      cases hb : upto hi l with
      | false => rfl
      | true => exact absurd (bad_of (by omega) hb) h0
    rw [show bad lim hi l = 1 by unfold bad; rw [if_neg h1, hb]; rfl]
    exact check_loop lim hi p cap n l w hn h hm (by omega) _ (by rw [hb]; rfl)
theorem check_good (lim : Nat) (hi : Int) (p : Option Addr) (cap n : Nat) (l : List Int) (w : World) (hn : n = l.length) (h : Ints w p cap l) (hm : lim ≤ 10000) (h0 : bad lim hi l = 0) :
    Calls Tryd.prog 26 #[.slice p n cap, .int .i64 lim, .int .i64 hi] w fun e w' => e = .returned .nilIface ∧ w = w' := by
  exact check_loop lim hi p cap n l w hn h hm (bad_zero h0).1 _ (by rw [(bad_zero h0).2]; rfl)

theorem checkBits_bad1 (p : Option Addr) (cap n : Nat) (l : List Int) (w : World) (hn : n = l.length) (h : Ints w p cap l) (m : Int) (hm2 : bad 200 1 l = m) (h0 : m ≠ 0) :
    Calls Tryd.prog 26 #[.slice p n cap, .int .i64 200, .int .i64 1] w fun e w' => e = .returned (.iface 45 (.int .i64 m)) ∧ w = w' := check_bad 200 1 p cap n l w hn h (by decide) m hm2 h0
theorem checkBits_bad2 (p : Option Addr) (cap n : Nat) (m : Int) (w : World) (C : Hid (Calls Tryd.prog 26 #[.slice p n cap, .int .i64 200, .int .i64 1] w fun e w' => e = .returned (.iface 45 (.int .i64 m)) ∧ w = w')) :
    Calls Tryd.prog 28 #[.slice p n cap] w fun e w' => e = .returned (.iface 45 (.int .i64 m)) ∧ w = w' := by
  go_enter Tryd.func28, Tryd.ntmps28
  go_wp2_with fail
  refine C.out.mono ?_; rintro e w' ⟨rfl, rfl⟩
  go_wp2_with fail
  go_ret
  exact ⟨rfl, rfl⟩
theorem checkBits_bad (p : Option Addr) (cap n : Nat) (l : List Int) (w : World) (hn : n = l.length) (h : Ints w p cap l) (m : Int) (hm2 : bad 200 1 l = m) (h0 : m ≠ 0) :
    Calls Tryd.prog 28 #[.slice p n cap] w fun e w' => e = .returned (.iface 45 (.int .i64 m)) ∧ w = w' :=
  checkBits_bad2 p cap n m w (Lib.hid (checkBits_bad1 p cap n l w hn h m hm2 h0))
theorem checkBits_good1 (p : Option Addr) (cap n : Nat) (l : List Int) (w : World) (hn : n = l.length) (h : Ints w p cap l) (h0 : bad 200 1 l = 0) :
    Calls Tryd.prog 26 #[.slice p n cap, .int .i64 200, .int .i64 1] w fun e w' => e = .returned .nilIface ∧ w = w' := check_good 200 1 p cap n l w hn h (by decide) h0
theorem checkBits_good2 (p : Option Addr) (cap n : Nat) (m : Int) (w : World) (C : Hid (Calls Tryd.prog 26 #[.slice p n cap, .int .i64 200, .int .i64 1] w fun e w' => e = .returned .nilIface ∧ w = w')) :
    Calls Tryd.prog 28 #[.slice p n cap] w fun e w' => e = .returned .nilIface ∧ w = w' := by
  go_enter Tryd.func28, Tryd.ntmps28
  go_wp2_with fail
  refine C.out.mono ?_; rintro e w' ⟨rfl, rfl⟩
  go_wp2_with fail
  go_ret
  exact ⟨rfl, rfl⟩
theorem checkBits_good (p : Option Addr) (cap n : Nat) (l : List Int) (w : World) (hn : n = l.length) (h : Ints w p cap l) (h0 : bad 200 1 l = 0) :
    Calls Tryd.prog 28 #[.slice p n cap] w fun e w' => e = .returned .nilIface ∧ w = w' :=
  checkBits_good2 p cap n 0 w (Lib.hid (checkBits_good1 p cap n l w hn h h0))
end Go.Proofs.YtooicigocljomaaDoor.Line
