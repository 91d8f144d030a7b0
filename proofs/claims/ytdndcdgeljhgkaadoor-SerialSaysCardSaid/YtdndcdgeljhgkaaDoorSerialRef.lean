/- Contracts of the document's answers for package serial. No statement is proved here. -/
import Derived.Test.YtdndcdgeljhgkaaDoorSerial
namespace Go.Proofs.YtdndcdgeljhgkaaDoor.SerialRef
open Go.RowKit Go.Proofs.YtdndcdgeljhgkaaDoor.Kit Go.Proofs.YtdndcdgeljhgkaaDoor.Serial
set_option linter.unusedVariables false

theorem abs_ok (n r : Int) (w : World) (h0 : -1000000 ≤ n) (h1 : n ≤ 1000000) (hr : r = if n < 0 then -n else n) : Calls Tryd.prog 17 #[.int .i64 n] w fun e w' => e = .returned (.int .i64 r) ∧ w = w' := by
  subst hr
  by_cases h : n < 0
  · have t1 : decide (n < 0) = true := decide_eq_true h
    rw [if_pos h]
    go_enter Tryd.func17, Tryd.ntmps17
    go_wp2
    go_ret
    exact ⟨rfl, rfl⟩
  · have t1 : decide (n < 0) = false := decide_eq_false h
    rw [if_neg h]
    go_enter Tryd.func17, Tryd.ntmps17
    go_wp2
    go_ret
    exact ⟨rfl, rfl⟩

theorem ahead_ok (a b d : Int) (w : World) (ha : 0 ≤ a ∧ a ≤ 255) (hb : 0 ≤ b ∧ b ≤ 255) (hd : d = (b - a) % 256) : Calls Tryd.prog 8 #[.int .i64 a, .int .i64 b] w fun e w' => e = .returned (.int .i64 d) ∧ w = w' := by
  have key : ∀ k : Int, 0 ≤ k → k < d → ((a + k) % 256 != b) = true := by intro k h0 h1; simp; omega
  have last : ((a + d) % 256 != b) = false := by simp; omega
  have hd0 : 0 ≤ d := by omega
  have hd1 : d < 256 := by omega
  have Key := Lib.hid key
  have Last := Lib.hid last
  clear key last hd
  obtain ⟨a1, a2⟩ := ha
  obtain ⟨b1, b2⟩ := hb
  go_enter Tryd.func8, Tryd.ntmps8
  go_wp2
  go_loop [5] (fun n => ∃ k : Int, n = .int .i64 k ∧ 0 ≤ k ∧ k ≤ d) (fun n => (d - intOf n).toNat)
  case atStart => exact ⟨0, rfl, by omega, hd0⟩
  case round =>
    obtain ⟨k, rfl, k0, k1⟩ := hrel
    by_cases h : k < d
    · have t1 := Key.out k k0 h
      go_wp2
      go_round
      case rel => exact ⟨k + 1, rfl, by omega, by omega⟩
      case measure => simp [intOf]; omega
    · obtain rfl : k = d := by omega
      have t1 := Last.out
      go_wp2
      go_ret
      exact ⟨rfl, rfl⟩

/-- What the second loop keeps: the place n and the best number so far. -/
structure Inv (a x n b : Int) : Prop where
  hn : ∃ k : Int, 0 ≤ k ∧ n = a + 256 * k
  top : n ≤ x + 512
  hb : a ≤ b ∧ b < n + 1
  st : (b = a ∧ (n = a ∨ n - 256 < x - 300)) ∨ (x - 300 ≤ n - 256 ∧ n - 256 ≤ x + 256 ∧ a + 256 ≤ n ∧
    ((n - 256 ≤ x ∧ b = n - 256) ∨ (x < n - 256 ∧ ((n - 256 = a ∧ b = a) ∨ (a + 512 ≤ n ∧ ((n - 256 - x ≤ 128 ∧ b = n - 256) ∨ (128 < n - 256 - x ∧ b = n - 512)))))))

theorem inv_start {a x : Int} (ha : 0 ≤ a ∧ a ≤ 255) (hx : 0 ≤ x ∧ x ≤ 100000) : Inv a x a a :=
  ⟨⟨0, by omega, by omega⟩, by omega, by omega, .inl ⟨rfl, .inl rfl⟩⟩
theorem inv_low {a x n b : Int} (ha : 0 ≤ a ∧ a ≤ 255) (hx : 0 ≤ x ∧ x ≤ 100000) (h : Inv a x n b) (hle : n ≤ x + 256) (hlow : ¬ x - 300 ≤ n) : Inv a x (n + 256) b := by
  obtain ⟨⟨k, h0, h1⟩, h2, h3, h4⟩ := h
  exact ⟨⟨k + 1, by omega, by omega⟩, by omega, by omega, by omega⟩
theorem inv_take {a x n b p q : Int} (ha : 0 ≤ a ∧ a ≤ 255) (hx : 0 ≤ x ∧ x ≤ 100000) (h : Inv a x n b) (hle : n ≤ x + 256) (hlow : x - 300 ≤ n)
    (hp : p = if n - x < 0 then -(n - x) else n - x) (hq : q = if b - x < 0 then -(b - x) else b - x) (hpq : p ≤ q) : Inv a x (n + 256) n := by
  obtain ⟨⟨k, h0, h1⟩, h2, h3, h4⟩ := h
  split at hp <;> split at hq <;> exact ⟨⟨k + 1, by omega, by omega⟩, by omega, by omega, by omega⟩
theorem inv_keep {a x n b p q : Int} (ha : 0 ≤ a ∧ a ≤ 255) (hx : 0 ≤ x ∧ x ≤ 100000) (h : Inv a x n b) (hle : n ≤ x + 256) (hlow : x - 300 ≤ n)
    (hp : p = if n - x < 0 then -(n - x) else n - x) (hq : q = if b - x < 0 then -(b - x) else b - x) (hpq : ¬ p ≤ q) : Inv a x (n + 256) b := by
  obtain ⟨⟨k, h0, h1⟩, h2, h3, h4⟩ := h
  split at hp <;> split at hq <;> exact ⟨⟨k + 1, by omega, by omega⟩, by omega, by omega, by omega⟩
theorem inv_end {a x n b : Int} (ha : 0 ≤ a ∧ a ≤ 255) (hx : 0 ≤ x ∧ x ≤ 100000) (h : Inv a x n b) (hle : ¬ n ≤ x + 256) : b = whole a x := by
  obtain ⟨⟨k, h0, h1⟩, h2, h3, h4⟩ := h
  unfold whole
  obtain ⟨d, hd⟩ : ∃ d, (a - x) % 256 = d := ⟨_, rfl⟩
  rw [hd]
  split <;> omega

theorem rwhole_ok (a x r : Int) (w : World) (ha : 0 ≤ a ∧ a ≤ 255) (hx : 0 ≤ x ∧ x ≤ 100000) (hr : r = whole a x) : Calls Tryd.prog 10 #[.int .i64 a, .int .i64 x] w fun e w' => e = .returned (.int .i64 r) ∧ w = w' := by
  have Hr := Lib.hid hr
  have Ha := Lib.hid ha
  have Hx := Lib.hid hx
  clear hr
  obtain ⟨a1, a2⟩ := ha
  obtain ⟨x1, x2⟩ := hx
  go_enter Tryd.func10, Tryd.ntmps10
  go_wp2
  go_loop [5, 6] (fun b n => ∃ p q : Int, b = .int .i64 p ∧ n = .int .i64 q ∧ Hid (Inv a x q p)) (fun _ n => (x + 1024 - intOf n).toNat)
  case atStart => exact ⟨a, a, rfl, rfl, inv_start Ha.out Hx.out⟩
  case round =>
    obtain ⟨b, n, rfl, rfl, HI⟩ := hrel
    have n0 : 0 ≤ n := by obtain ⟨⟨k, _, _⟩, _, _, _⟩ := HI.out; omega
    have n1 : n ≤ x + 512 := HI.out.top
    have b0 : 0 ≤ b := by have := HI.out.hb; omega
    have b1 : b ≤ n := by have := HI.out.hb; omega
    by_cases h1 : n ≤ x + 256
    · have t1 : decide (n ≤ x + 256) = true := decide_eq_true h1
      by_cases h2 : x - 300 ≤ n
      · have t2 : decide (x - 300 ≤ n) = true := decide_eq_true h2
        obtain ⟨p, hp⟩ : ∃ p, p = if n - x < 0 then -(n - x) else n - x := ⟨_, rfl⟩
        obtain ⟨q, hq⟩ : ∃ q, q = if b - x < 0 then -(b - x) else b - x := ⟨_, rfl⟩
        have Hp := Lib.hid hp
        have Hq := Lib.hid hq
        have C1 := Lib.hid (fun W => abs_ok (n - x) p W (by omega) (by omega) hp)
        have C2 := Lib.hid (fun W => abs_ok (b - x) q W (by omega) (by omega) hq)
        clear hp hq
        by_cases h3 : p ≤ q
        · have t3 : decide (p ≤ q) = true := decide_eq_true h3
          have I' := Lib.hid (inv_take Ha.out Hx.out HI.out h1 h2 Hp.out Hq.out h3)
          go_wp2_with fail
          refine (C1.out _).mono ?_; rintro e w' ⟨rfl, rfl⟩
          go_wp2_with fail
          refine (C2.out _).mono ?_; rintro e w' ⟨rfl, rfl⟩
          go_wp2
          go_round
          case rel => exact ⟨_, _, rfl, rfl, I'⟩
          case measure => simp [intOf]; omega
        · have t3 : decide (p ≤ q) = false := decide_eq_false h3
          have I' := Lib.hid (inv_keep Ha.out Hx.out HI.out h1 h2 Hp.out Hq.out h3)
          go_wp2_with fail
          refine (C1.out _).mono ?_; rintro e w' ⟨rfl, rfl⟩
          go_wp2_with fail
          refine (C2.out _).mono ?_; rintro e w' ⟨rfl, rfl⟩
          go_wp2
          go_round
          case rel => exact ⟨_, _, rfl, rfl, I'⟩
          case measure => simp [intOf]; omega
      · have t2 : decide (x - 300 ≤ n) = false := decide_eq_false h2
        have I' := Lib.hid (inv_low Ha.out Hx.out HI.out h1 h2)
        go_wp2
        go_round
        case rel => exact ⟨_, _, rfl, rfl, I'⟩
        case measure => simp [intOf]; omega
    · have t1 : decide (n ≤ x + 256) = false := decide_eq_false h1
      go_wp2
      go_ret
      exact ⟨ret_int (by rw [Hr.out]; exact inv_end Ha.out Hx.out HI.out (by omega)), rfl⟩
end Go.Proofs.YtdndcdgeljhgkaaDoor.SerialRef
