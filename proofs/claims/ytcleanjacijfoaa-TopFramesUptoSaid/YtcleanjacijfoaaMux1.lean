/- Package mux: isStream, agree, New, Waits. No statement is proved here. -/
import Derived.Test.YtcleanjacijfoaaMuxSt
import Derived.BigQuiet
import Derived.RegionTactic
namespace Go.Proofs.Ytcleanjacijfoaa.Mux
open Go.ChangeShapes Go.WideShapes Go.ChangeAt Go.RowKit Go.Proofs.Ytcleanjacijfoaa.Kit Go.Proofs.Ytcleanjacijfoaa.App Go.Proofs.Ytcleanjacijfoaa.Cells Go.Proofs.Ytcleanjacijfoaa.Err
set_option linter.unusedVariables false
set_option maxRecDepth 20000
set_option maxHeartbeats 1000000

theorem stream_any (n : Int) (w : World) (R : Bool) (hR : R = decide (isS n)) : Calls Try.prog 20 #[.int .i64 n] w fun e w' => e = .returned (.bool R) ∧ w' = w := by
  subst hR
  by_cases h1 : 0 ≤ n
  · have t1 : decide (0 ≤ n) = true := decide_eq_true h1
    have hx : decide (isS n) = decide (n < 4) := by unfold isS; exact decide_eq_decide.2 (by omega)
    rw [hx]
    clear hx
    go_enter Try.func20, Try.ntmps20
    go_wp2_with fail
    go_ret
    exact ⟨rfl, rfl⟩
  · have t1 : decide (0 ≤ n) = false := decide_eq_false h1
    have hx : decide (isS n) = false := by unfold isS; exact decide_eq_false (by omega)
    rw [hx]
    clear hx
    go_enter Try.func20, Try.ntmps20
    go_wp2_with fail
    go_ret
    exact ⟨rfl, rfl⟩

def zeroE : Array Value := (evs (fun _ => 0) (fun _ => 0)).toArray
theorem zero_run (W : World) : (zeroValue 61).run Try.prog W = .ok (.agg zeroE) W := by kernel_rfl
theorem zero_size : zeroE.size = 1604 := by kernel_rfl
theorem new_any (w : World) : Calls Try.prog 9 #[] w fun e w' => e = .returned (.pointer (some ⟨w.heap.size, 0, none⟩)) ∧ Ends w' w.heap.size (fun _ => 0) (fun _ => 0) ∧ Below w.heap.size w w' := by
  have hz := zero_run
  have hsz := zero_size
  have HZ := Lib.hid (show zeroE = (evs (fun _ => 0) (fun _ => 0)).toArray from rfl)
  generalize zeroE = Z at hz hsz HZ
  go_enter Try.func9, Try.ntmps9
  go_wp2_with fail
  go_ret
  refine ⟨rfl, ?_, balloc (brefl w) _⟩
  rw [HZ.out]
  exact Blk.new w _ _

/-- What may come next: the places of a slice hold what K says, and agree with the text, or not. -/
theorem agree_any (g o m c : Nat) (p : Option Addr) (K : Nat → Nat) (s : ByteArray) (w : World) (hm : m = s.size) (hp : 0 < m → p = some ⟨g, o, none⟩) (hg : g < w.heap.size)
    (hk : ∀ j, j < m → w.cell? ⟨g, o + j * 2, none⟩ = some (.bool (decide (K j ≠ 0))) ∧ w.cell? ⟨g, o + j * 2 + 1, none⟩ = some (.int .u8 ((K j - 1 : Nat) : Int))) (hs : m ≤ 200)
    (R : Bool) (hR : R = true ↔ ∀ j, j < m → K j = 0 ∨ K j = (bl s)[j]?.getD 0 + 1) :
    Calls Try.prog 21 #[.slice p m c, .string s] w fun e w' => e = .returned (.bool R) ∧ Below w.heap.size w w' := by
  have HM := Lib.hid hm
  have HP := Lib.hid hp
  have HK := Lib.hid hk
  have HR := Lib.hid hR
  clear hm hp hk hR
  go_enter Try.func21, Try.ntmps21
  go_wp2_with fail
  go_loopw [9] (fun iv wr => ∃ k : Nat, k ≤ m ∧ iv = .int .i64 k ∧ Hid (Below w.heap.size w wr) ∧ Hid (∀ j, j < k → K j = 0 ∨ K j = (bl s)[j]?.getD 0 + 1)) (fun i _ => m - (intOf i).toNat)
  case atStart => exact ⟨0, Nat.zero_le _, rfl, Lib.hid (brefl w), Lib.hid (fun j h => absurd h (by omega))⟩
  case round =>
    obtain ⟨k, hk, rfl, HW, H⟩ := hrel
    by_cases hlt : k < m
    · have u1 : decide ((k : Int) < (m : Int)) = true := decide_eq_true (by omega)
      obtain rfl := HP.out (by omega)
      obtain ⟨q1, q2⟩ := HK.out k hlt
      have c1 := (HW.out.cell (p := ⟨g, o + k * 2, none⟩) hg).trans q1
      have c2 := (HW.out.cell (p := ⟨g, o + k * 2 + 1, none⟩) hg).trans q2
      have hks : k < s.size := by rw [← HM.out]; exact hlt
      obtain ⟨y, hy, hy2⟩ : ∃ y, (s[k]'hks).toNat = y ∧ y < 256 := ⟨_, rfl, (s[k]'hks).toNat_lt⟩
      have HB := Lib.hid (show (bl s)[k]?.getD 0 = y by rw [bl_at s hks]; exact hy)
      clear q1 q2
      by_cases h0 : K k = 0
      · have HN := Lib.hid (fun j (hj : j < k + 1) => if e : j = k then .inl (by rw [e]; exact h0) else H.out j (by omega) : ∀ j, j < k + 1 → K j = 0 ∨ K j = (bl s)[j]?.getD 0 + 1)
        rw [h0] at c1 c2
        have c1 : wr.cell? ⟨g, o + k * 2, none⟩ = some (.bool false) := c1
        have c2 : wr.cell? ⟨g, o + k * 2 + 1, none⟩ = some (.int .u8 0) := c2
        clear h0
        go_wp2_with fail
        go_quiet (fail)
        go_wp2_with fail
        go_roundw
        case rel => exact ⟨k + 1, by omega, by first | rfl | go_num, Lib.hid (bdrewN (balloc HW.out _) _), HN⟩
        case measure => simp [intOf]; omega
      · rw [decide_eq_true h0] at c1
        obtain ⟨x, hx⟩ : ∃ x, K k - 1 = x := ⟨_, rfl⟩
        rw [hx] at c2
        by_cases e : x = y
        · have HN := Lib.hid (fun j (hj : j < k + 1) => if e2 : j = k then .inr (by rw [e2, HB.out]; omega) else H.out j (by omega) : ∀ j, j < k + 1 → K j = 0 ∨ K j = (bl s)[j]?.getD 0 + 1)
          clear h0 hx
          subst e
          have u2 : ((x : Int) != (x : Int)) = false := by simp
          go_wp2_with fail
          go_quiet (fail)
          go_wp2_with fail
          go_roundw
          case rel => exact ⟨k + 1, by omega, by first | rfl | go_num, Lib.hid (bdrewN (balloc HW.out _) _), HN⟩
          case measure => simp [intOf]; omega
        · have HRf : Hid (R = false) := Lib.hid (by
            cases R with
            | false => rfl
            | true =>
              exfalso
              rcases HR.out.1 rfl k hlt with h | h
              · exact h0 h
              · rw [HB.out] at h; omega)
          have u2 : ((x : Int) != (y : Int)) = true := by simp; omega
          have u3 : (x == y) = false := by simp [e]
          have u4 : ((x : Int) == (y : Int)) = false := by simp; omega
          clear h0 hx
          go_wp2_with fail
          go_quiet (fail)
          go_wp2_with fail
          go_ret
          exact ⟨by rw [HRf.out]; rfl, bdrewN (balloc HW.out _) _⟩
    · obtain rfl : k = m := by omega
      have u1 : decide ((k : Int) < (k : Int)) = false := decide_eq_false (by omega)
      have HRt : Hid (R = true) := Lib.hid (HR.out.2 H.out)
      go_wp2_with fail
      go_ret
      exact ⟨by rw [HRt.out]; rfl, HW.out⟩

/-- Waits. -/
theorem waits_bad (g : Nat) (n : Int) (w : World) (h : ¬ isS n) : Calls Try.prog 13 #[.pointer (some ⟨g, 0, none⟩), .int .i64 n] w fun e w' => e = .returned (.int .i64 0) ∧ w' = w := by
  have F := Lib.hid (fun W => stream_any n W false (decide_eq_false h).symm)
  clear h
  go_enter Try.func13, Try.ntmps13
  go_wp2_with fail
  refine (F.out _).mono ?_; rintro e w1 ⟨rfl, rfl⟩
  go_wp2_with fail
  go_ret
  exact ⟨rfl, rfl⟩
theorem waits_good (g : Nat) (d r : Nat → Nat) (n : Nat) (hn : n < 4) (w : World) (H : Ends w g d r) (hr : r n ≤ 200) (a : Nat) (ha : wait d (200 * n) (r n) = a) : Calls Try.prog 13 #[.pointer (some ⟨g, 0, none⟩), .int .i64 (n : Int)] w fun e w' => e = .returned (.int .i64 (a : Int)) ∧ Below w.heap.size w w' := by
  have F := Lib.hid (fun W => stream_any (n : Int) W true (decide_eq_true (by unfold isS; omega)).symm)
  have HE := Lib.hid H
  have hg := H.lt
  obtain ⟨b, hb⟩ : ∃ b, r n = b := ⟨_, rfl⟩
  have c0 := H.rd hn
  rw [hb] at c0 ha hr
  have HA := Lib.hid ha
  have hn4 : (n : Int) < 4 := by omega
  obtain ⟨p, c, hsl, hp⟩ := slice_l g (n * 401) b hr
  have HP := Lib.hid hp
  obtain ⟨m, hm⟩ : ∃ m, 200 - b = m := ⟨_, rfl⟩
  rw [hm] at hsl HP
  have HM := Lib.hid hm
  have hm2 : m ≤ 200 := by omega
  clear H ha hp hm hb
  go_enter Try.func13, Try.ntmps13
  go_wp2_with fail
  refine (F.out _).mono ?_; rintro e w1 ⟨rfl, rfl⟩
  go_wp2_with fail
  go_quiet (fail)
  go_wp2_with fail
  go_loopw [6, 26] (fun cv iv wr => ∃ k q : Nat, k ≤ m ∧ q ≤ k ∧ iv = .int .i64 (k : Int) ∧ cv = .int .i64 (q : Int) ∧ Hid (waitTo d (200 * n) b (b + k) = q) ∧ Hid (Below w1.heap.size w1 wr)) (fun _ i _ => m - (intOf i).toNat)
  case atStart => exact ⟨0, 0, Nat.zero_le _, Nat.zero_le _, rfl, rfl, Lib.hid (waitTo_none _ _ _), Lib.hid (bdrewN (brefl _) _)⟩
  case round =>
    obtain ⟨k, q, hk, hq, rfl, rfl, HQ, HW⟩ := hrel
    by_cases hlt : k < m
    · have u1 : decide ((k : Int) < (m : Int)) = true := decide_eq_true (by omega)
      obtain rfl := HP.out (by omega)
      have hM := HM.out
      have q1 := HE.out.known (n := n) (j := b + k) hn (by omega)
      have q2 := HE.out.value (n := n) (j := b + k) hn (by omega)
      rw [show n * 401 + (b + k) * 2 = n * 401 + b * 2 + k * 2 by omega] at q1 q2
      have c1 := (HW.out.cell (p := ⟨g, n * 401 + b * 2 + k * 2, none⟩) hg).trans q1
      have c2 := (HW.out.cell (p := ⟨g, n * 401 + b * 2 + k * 2 + 1, none⟩) hg).trans q2
      have HN := Lib.hid (waitTo_next d (200 * n) (at_ := b) (i := b + k) (by omega))
      obtain ⟨x, hx⟩ : ∃ x, d (200 * n + (b + k)) - 1 = x := ⟨_, rfl⟩
      rw [hx] at c2
      clear q1 q2 hM hx
      by_cases h0 : d (200 * n + (b + k)) ≠ 0
      · rw [decide_eq_true h0] at c1
        have HN2 : Hid (waitTo d (200 * n) b (b + (k + 1)) = q + 1) := Lib.hid (by have := HN.out; rw [if_pos h0, HQ.out] at this; exact this)
        clear h0
        go_wp2_with fail
        go_roundw
        case rel => exact ⟨k + 1, q + 1, by omega, by omega, by first | rfl | go_num, by first | rfl | go_num, HN2, Lib.hid (balloc HW.out _)⟩
        case measure => simp [intOf]; omega
      · rw [decide_eq_false h0] at c1
        have HN2 : Hid (waitTo d (200 * n) b (b + (k + 1)) = q) := Lib.hid (by have := HN.out; rw [if_neg h0, HQ.out] at this; exact this)
        clear h0
        go_wp2_with fail
        go_roundw
        case rel => exact ⟨k + 1, q, by omega, by omega, by first | rfl | go_num, by first | rfl | go_num, HN2, Lib.hid (balloc HW.out _)⟩
        case measure => simp [intOf]; omega
    · obtain rfl : k = m := by omega
      have u1 : decide ((k : Int) < (k : Int)) = false := decide_eq_false (by omega)
      have HX : Hid (q = a) := Lib.hid (by
        have h1 := HQ.out
        have h2 := HM.out
        rw [show b + k = 200 by omega, waitTo_all, HA.out] at h1
        exact h1.symm)
      go_wp2_with fail
      go_ret
      exact ⟨by show Ending.returned (.int .i64 (q : Int)) = _; rw [HX.out], HW.out⟩
/-- Waits, whatever it is asked. -/
theorem waits_any (g : Nat) (d r : Nat → Nat) (n : Int) (w : World) (H : Ends w g d r) (hO : Okm d r) (V : Int) (hV : waitM d r n = V) : Calls Try.prog 13 #[.pointer (some ⟨g, 0, none⟩), .int .i64 n] w fun e w' => e = .returned (.int .i64 V) ∧ Below w.heap.size w w' := by
  by_cases h : isS n
  · obtain ⟨k, rfl⟩ : ∃ k : Nat, n = (k : Int) := ⟨n.toNat, by have := h.1; omega⟩
    unfold waitM at hV
    rw [if_pos h, Int.toNat_natCast] at hV
    subst hV
    exact waits_good g d r k (by have := h.2; omega) w H (hO.rd k) _ rfl
  · unfold waitM at hV
    rw [if_neg h] at hV
    subst hV
    refine (waits_bad g n w h).mono ?_
    rintro e w' ⟨rfl, rfl⟩
    exact ⟨rfl, brefl _⟩
end Go.Proofs.Ytcleanjacijfoaa.Mux
