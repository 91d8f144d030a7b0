/- Contracts of the document's answers in and All (any bounds). No statement is proved here. -/
import Derived.Test.YteggajhpjdidcaaDoorSub
import Derived.RegionTactic
namespace Go.Proofs.YteggajhpjdidcaaDoor.App
open Go.ChangeShapes Go.WideShapes Go.ChangeAt Go.RowKit
open Go.Proofs.YteggajhpjdidcaaDoor.Kit
set_option linter.unusedVariables false
set_option maxRecDepth 20000

theorem rin_yes (n a b : Int) (w : World) (h : a ≤ n ∧ n ≤ b) : Calls Tryd.prog 12 #[.int .i64 n, .int .i64 a, .int .i64 b] w fun e w' => e = .returned (.bool true) ∧ w = w' := by
  obtain ⟨h1, h2⟩ := h
  have t1 : decide (a ≤ n) = true := decide_eq_true h1
  have t2 : decide (n ≤ b) = true := decide_eq_true h2
  go_enter Tryd.func12, Tryd.ntmps12
  go_wp2
  go_ret
  exact ⟨rfl, rfl⟩
theorem rin_no (n a b : Int) (w : World) (h : ¬ (a ≤ n ∧ n ≤ b)) : Calls Tryd.prog 12 #[.int .i64 n, .int .i64 a, .int .i64 b] w fun e w' => e = .returned (.bool false) ∧ w = w' := by
  by_cases h1 : a ≤ n
  · have h2 : ¬ n ≤ b := fun h2 => h ⟨h1, h2⟩
    clear h
    have t1 : decide (a ≤ n) = true := decide_eq_true h1
    have t2 : decide (n ≤ b) = false := decide_eq_false h2
    go_enter Tryd.func12, Tryd.ntmps12
    go_wp2
    go_ret
    exact ⟨rfl, rfl⟩
  · clear h
    have t1 : decide (a ≤ n) = false := decide_eq_false h1
    go_enter Tryd.func12, Tryd.ntmps12
    go_wp2
    go_ret
    exact ⟨rfl, rfl⟩

/-- Every number is from lo to hi. -/
def within (lo hi : Int) (l : List Int) : Bool := l.all fun x => decide (lo ≤ x) && decide (x ≤ hi)
theorem within_iff {lo hi : Int} {l : List Int} : within lo hi l = true ↔ ∀ x ∈ l, lo ≤ x ∧ x ≤ hi := by simp [within]
theorem within_of {lo hi : Int} {l : List Int} (h : ∀ k : Nat, k < l.length → lo ≤ l[k]?.getD 0 ∧ l[k]?.getD 0 ≤ hi) : within lo hi l = true := by
  refine within_iff.2 fun x hx => ?_
  obtain ⟨k, hk, rfl⟩ := List.getElem_of_mem hx
  have := h k hk
  rwa [List.getElem?_eq_getElem hk] at this
theorem within_false {lo hi : Int} {l : List Int} {k : Nat} (hk : k < l.length) (h : ¬ (lo ≤ l[k]?.getD 0 ∧ l[k]?.getD 0 ≤ hi)) : within lo hi l = false := by
  cases hb : within lo hi l with
  | false => rfl
  | true =>
    have := within_iff.1 hb _ (List.getElem_mem hk)
    rw [List.getElem?_eq_getElem hk] at h
    exact absurd this h

theorem all_any (lo hi : Int) (p : Option Addr) (cap n : Nat) (l : List Int) (w : World) (hn : n = l.length) (h : Ints w p cap l) (R : Bool) (hR0 : R = within lo hi l) :
    Calls Tryd.prog 5 #[.slice p n cap, .int .i64 lo, .int .i64 hi] w fun e w' => e = .returned (.bool R) ∧ w = w' := by
  subst hn
  have hR := Lib.hid hR0
  clear hR0
  have hlen := h.len_le
  go_enter Tryd.func5, Tryd.ntmps5
  go_wp2
  go_loop [7] (fun i => ∃ k : Nat, k ≤ l.length ∧ i = .int .i64 k ∧ Hid (∀ j : Nat, j < k → lo ≤ l[j]?.getD 0 ∧ l[j]?.getD 0 ≤ hi)) (fun i => l.length - (intOf i).toNat)
  case atStart => exact ⟨0, Nat.zero_le _, rfl, fun j hj => absurd hj (Nat.not_lt_zero _)⟩
  case round =>
    obtain ⟨k, hk, rfl, H⟩ := hrel
    by_cases hlt : k < l.length
    · obtain ⟨b, off, rfl, _, hc⟩ := h.2.2.2 (by omega)
      have hck := hc k hlt
      clear hc h
      obtain ⟨x, hx⟩ : ∃ x, l[k]?.getD 0 = x := ⟨_, rfl⟩
      rw [hx] at hck
      have Hx := Lib.hid hx
      clear hx
      by_cases h1 : lo ≤ x ∧ x ≤ hi
      · have C := Lib.hid (rin_yes x lo hi w h1)
        have H1 := Lib.hid h1
        clear h1
        go_wp2_with (go_at_call 12; refine C.out.mono ?_; rintro e w' ⟨rfl, rfl⟩)
        go_round
        case rel => exact ⟨k + 1, by omega, by go_num, fun j hj => by
          by_cases e : j = k
          · rw [e, Hx.out]; exact H1.out
          · exact H.out j (by omega)⟩
        case measure => simp [intOf]; omega
      · have hf := Lib.hid (within_false (lo := lo) (hi := hi) hlt (by rw [Hx.out]; exact h1))
        have C := Lib.hid (rin_no x lo hi w h1)
        clear h1
        go_wp2_with (go_at_call 12; refine C.out.mono ?_; rintro e w' ⟨rfl, rfl⟩)
        go_ret
        exact ⟨by rw [hR.out, hf.out]; rfl, rfl⟩
    · obtain rfl : k = l.length := by omega
      go_wp2
      go_ret
      exact ⟨by rw [hR.out, within_of H.out]; rfl, rfl⟩

end Go.Proofs.YteggajhpjdidcaaDoor.App
