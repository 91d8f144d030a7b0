/- Contracts of the checks of package ones. No statement is proved here. -/
import Derived.Test.YtooicigocljomaaDoorIter
import Derived.Outline
namespace Go.Proofs.YtooicigocljomaaDoor.Ones
open Go.RowKit Go.Proofs.YtooicigocljomaaDoor.Kit Go.Proofs.YtooicigocljomaaDoor.It
set_option linter.unusedVariables false
set_option maxRecDepth 20000

theorem ret_bool {a b : Bool} (h : a = b) : Ending.returned (.bool a) = .returned (.bool b) := by rw [h]
theorem ret_int {k : IntKind} {a b : Int} (h : a = b) : Ending.returned (.int k a) = .returned (.int k b) := by rw [h]

/-- Every number is in [0, m]. -/
def wthn (l : List Int) (m : Int) : Bool := decide (∀ j : Nat, j < l.length → 0 ≤ l[j]?.getD 0 ∧ l[j]?.getD 0 ≤ m)
theorem wthn_true {l : List Int} {m : Int} (h : ∀ j : Nat, j < l.length → 0 ≤ l[j]?.getD 0 ∧ l[j]?.getD 0 ≤ m) : true = wthn l m := (decide_eq_true h).symm
theorem wthn_false {l : List Int} {m : Int} {k : Nat} (hk : k < l.length) (h : l[k]?.getD 0 < 0 ∨ m < l[k]?.getD 0) : false = wthn l m := by
  symm
  refine decide_eq_false fun hh => ?_
  have := hh k hk
  omega

set_option maxHeartbeats 400000 in
theorem within_any (p : Option Addr) (cap : Nat) (l : List Int) (m : Int) (w : World) (h : Ints w p cap l) :
    Calls Tryd.prog 41 #[.slice p l.length cap, .int .i64 m] w fun e w' => e = .returned (.bool (wthn l m)) ∧ w = w' := by
  have hlen := h.len_le
  go_enter Tryd.func41, Tryd.ntmps41
  go_wp2
  go_loop [6, 9] (fun _ i => ∃ k : Nat, k ≤ l.length ∧ i = .int .i64 k ∧ Hid (∀ j : Nat, j < k → 0 ≤ l[j]?.getD 0 ∧ l[j]?.getD 0 ≤ m)) (fun _ i => l.length - (intOf i).toNat)
  case atStart => exact ⟨0, Nat.zero_le _, rfl, fun j hj => absurd hj (Nat.not_lt_zero _)⟩
  case round =>
    obtain ⟨k, hk, rfl, H⟩ := hrel
    by_cases hlt : k < l.length
    · obtain ⟨b, off, rfl, _, hc⟩ := h.2.2.2 (by omega)
      have hck := hc k hlt
      clear hc h
      obtain ⟨x, hx⟩ : ∃ x, l[k]?.getD 0 = x := ⟨_, rfl⟩
      rw [hx] at hck
      have Hx := Lib.hid hx
      clear hx
      by_cases h1 : x < 0
      · have t1 : decide (x < 0) = true := decide_eq_true h1
        go_wp2
        go_ret
        exact ⟨ret_bool (wthn_false hlt (.inl (by rw [Hx.out]; exact h1))), rfl⟩
      · have t1 : decide (x < 0) = false := decide_eq_false h1
        by_cases h2 : m < x
        · have t2 : decide (m < x) = true := decide_eq_true h2
          go_wp2
          go_ret
          exact ⟨ret_bool (wthn_false hlt (.inr (by rw [Hx.out]; exact h2))), rfl⟩
        · have t2 : decide (m < x) = false := decide_eq_false h2
          go_wp2
          go_round
          case rel => exact ⟨k + 1, by omega, by go_num, fun j hj => by
            by_cases e : j = k
            · rw [e, Hx.out]; omega
            · exact H.out j (by omega)⟩
          case measure => simp [intOf]; omega
    · obtain rfl : k = l.length := by omega
      go_wp2
      go_ret
      exact ⟨ret_bool (wthn_true H.out), rfl⟩

theorem check_full (p : Option Addr) (cap : Nat) (l : List Int) (w : World) (h : Ints w p cap l) (hl : 600 < l.length) :
    Calls Tryd.prog 32 #[.slice p l.length cap] w fun e w' => e = .returned (.iface 45 (.int .i64 4)) ∧ w = w' := by
  have hlen := h.len_le
  go_enter Tryd.func32, Tryd.ntmps32
  go_wp2
  go_ret
  exact ⟨rfl, rfl⟩

theorem check_bad (p : Option Addr) (cap : Nat) (l : List Int) (w : World) (h : Ints w p cap l) (hl : l.length ≤ 600) (hb : wthn l 255 = false) :
    Calls Tryd.prog 32 #[.slice p l.length cap] w fun e w' => e = .returned (.iface 45 (.int .i64 1)) ∧ w = w' := by
  have hlen := h.len_le
  have c := within_any p cap l 255 w h
  rw [hb] at c
  have C := Lib.hid c
  clear c hb
  go_enter Tryd.func32, Tryd.ntmps32
  go_wp2_with (go_at_call 41; refine C.out.mono ?_; rintro e w' ⟨rfl, rfl⟩)
  go_ret
  exact ⟨rfl, rfl⟩

theorem check_ok (p : Option Addr) (cap : Nat) (l : List Int) (w : World) (h : Ints w p cap l) (hl : l.length ≤ 600) (hb : wthn l 255 = true) :
    Calls Tryd.prog 32 #[.slice p l.length cap] w fun e w' => e = .returned .nilIface ∧ w = w' := by
  have hlen := h.len_le
  have c := within_any p cap l 255 w h
  rw [hb] at c
  have C := Lib.hid c
  clear c hb
  go_enter Tryd.func32, Tryd.ntmps32
  go_wp2_with (go_at_call 41; refine C.out.mono ?_; rintro e w' ⟨rfl, rfl⟩)
  go_ret
  exact ⟨rfl, rfl⟩
end Go.Proofs.YtooicigocljomaaDoor.Ones
