/- Package spf: check and From. No statement is proved here. -/
import Derived.Test.YtedhippamfioeaaDoorSpf4
import Derived.Test.YtedhippamfioeaaDoorVec1
import Derived.Test.YtedhippamfioeaaDoorClone
namespace Go.Proofs.YtedhippamfioeaaDoor.Spf
open Go.ChangeShapes Go.WideShapes Go.ChangeAt Go.RowKit Go.Proofs.YtedhippamfioeaaDoor.Kit Go.Proofs.YtedhippamfioeaaDoor.App Go.Proofs.YtedhippamfioeaaDoor.Cells Go.Proofs.YtedhippamfioeaaDoor.Err Go.Proofs.YtedhippamfioeaaDoor.Vector
set_option linter.unusedVariables false
set_option maxRecDepth 20000
set_option maxHeartbeats 1000000

/-- One of some numbers is no node. -/
def outs (n : Int) : List Int → Int
  | [] => 0
  | x :: xs => if x < 0 ∨ n ≤ x then 1 else outs n xs
def wrong (n : Int) (ls : List Lk) (xs : List Int) : Int := if code n ls = 0 then outs n xs else code n ls
theorem outs_at {n : Int} : ∀ (xs : List Int) (k : Nat), k < xs.length → (∀ j, j < k → ¬ (xs[j]?.getD 0 < 0 ∨ n ≤ xs[j]?.getD 0)) → (xs[k]?.getD 0 < 0 ∨ n ≤ xs[k]?.getD 0) → outs n xs = 1
  | [], k, h, _, _ => by simp at h
  | x :: xs, 0, h, hz, hk => if_pos hk
  | x :: xs, k + 1, h, hz, hk => by
    show (if x < 0 ∨ n ≤ x then 1 else outs n xs) = 1
    rw [if_neg (show ¬ (x < 0 ∨ n ≤ x) from hz 0 (by omega))]
    exact outs_at xs k (by simpa using h) (fun j hj => hz (j + 1) (by omega)) hk
theorem outs_none {n : Int} : ∀ (xs : List Int), (∀ j, j < xs.length → ¬ (xs[j]?.getD 0 < 0 ∨ n ≤ xs[j]?.getD 0)) → outs n xs = 0
  | [], _ => rfl
  | x :: xs, hz => by
    show (if x < 0 ∨ n ≤ x then 1 else outs n xs) = 0
    rw [if_neg (show ¬ (x < 0 ∨ n ≤ x) from hz 0 (by simp))]
    exact outs_none xs fun j hj => hz (j + 1) (by simp; omega)
theorem wrong_val (n : Int) (ls : List Lk) (xs : List Int) : wrong n ls xs = 0 ∨ wrong n ls xs = 1 ∨ wrong n ls xs = 3 ∨ wrong n ls xs = 4 := by
  unfold wrong
  split
  · induction xs with
    | nil => exact .inl rfl
    | cons x xs ih =>
      unfold outs
      split
      · exact .inr (.inl rfl)
      · exact ih
  · exact code_val n ls
theorem check_any (n : Int) (p : Option Addr) (cap m : Nat) (ls : List Lk) (q : Option Addr) (cq k : Nat) (xs : List Int) (w : World) (hm : m = ls.length) (hi : CI layL w p cap ls) (hk : k = xs.length) (hx : Ints w q cq xs) (c : Int) (hc : wrong n ls xs = c) :
    Calls Tryd.prog 29 #[.int .i64 n, .slice p m cap, .slice q k cq] w fun e w' => e = .returned (er c) ∧ Below w.heap.size w w' := by
  have C := Lib.hid (Vector.check_any n p cap m ls w hm hi (code n ls) rfl)
  have hk2 : k ≤ 9223372036854775807 := by
    have h1 := hx.1; have h2 := hx.2.1
    unfold maxLen at h2
    omega
  have HX := Lib.hid hx
  have HK := Lib.hid hk
  unfold wrong at hc
  by_cases h0 : code n ls = 0
  · rw [if_pos h0] at hc
    rw [h0, er_0] at C
    have HC := Lib.hid hc
    clear hc h0 hi hm hx hk
    go_enter Tryd.func29, Tryd.ntmps29
    go_wp2_with fail
    refine C.out.mono ?_; rintro e w1 ⟨rfl, hb⟩
    have HB := Lib.hid hb
    clear hb C
    go_wp2_with fail
    go_loopw [18] (fun iv wr => ∃ j : Nat, j ≤ k ∧ iv = .int .i64 j ∧ Hid (∀ i, i < j → ¬ (xs[i]?.getD 0 < 0 ∨ n ≤ xs[i]?.getD 0)) ∧ wr = w1) (fun i _ => k - (intOf i).toNat)
    case atStart => exact ⟨0, Nat.zero_le _, rfl, Lib.hid fun i hi => absurd hi (Nat.not_lt_zero _), rfl⟩
    case round =>
      obtain ⟨j, hj, rfl, HZ, rfl⟩ := hrel
      by_cases hlt : j < k
      · have t0 : decide ((j : Int) < (k : Int)) = true := decide_eq_true (by omega)
        have hjl : j < xs.length := by rw [← HK.out]; exact hlt
        obtain ⟨b, off, rfl, _, hcell⟩ := (HX.out.below HB.out).2.2.2 (by omega)
        have c0 := hcell j hjl
        have HA := Lib.hid (outs_at (n := n) xs j hjl HZ.out)
        have HN := Lib.hid (fun (h : ¬ (xs[j]?.getD 0 < 0 ∨ n ≤ xs[j]?.getD 0)) i (hi : i < j + 1) => (show ¬ (xs[i]?.getD 0 < 0 ∨ n ≤ xs[i]?.getD 0) from by
          by_cases e : i = j
          · rw [e]; exact h
          · exact HZ.out i (by omega)))
        generalize xs[j]?.getD 0 = x at c0 HA HN
        clear hcell hjl
        by_cases h1 : x < 0
        · have t1 : decide (x < 0) = true := decide_eq_true h1
          have HE := Lib.hid (show c = 1 by rw [← HC.out, HA.out (.inl h1)])
          clear h1
          go_wp2_with fail
          go_ret
          exact ⟨by rw [HE.out]; rfl, HB.out⟩
        · have t1 : decide (x < 0) = false := decide_eq_false h1
          by_cases h2 : n ≤ x
          · have t2 : decide (x ≥ n) = true := decide_eq_true h2
            have HE := Lib.hid (show c = 1 by rw [← HC.out, HA.out (.inr h2)])
            clear h1
            go_wp2_with fail
            go_ret
            exact ⟨by rw [HE.out]; rfl, HB.out⟩
          · have t2 : decide (x ≥ n) = false := decide_eq_false h2
            have HN2 := Lib.hid (HN.out (by omega))
            clear h1
            go_wp2_with fail
            go_roundw
            case rel => exact ⟨j + 1, by omega, by first | rfl | go_num, HN2, by first | trivial | rfl⟩
            case measure => simp [intOf]; omega
      · obtain rfl : j = k := by omega
        have t0 : decide ((j : Int) < (j : Int)) = false := decide_eq_false (by omega)
        have HE := Lib.hid (show c = 0 by rw [← HC.out, outs_none xs (fun i hi => HZ.out i (by rw [HK.out]; exact hi))])
        go_wp2_with fail
        go_ret
        exact ⟨by rw [HE.out]; rfl, HB.out⟩
  · rw [if_neg h0] at hc
    subst hc
    rw [er_ne h0] at C ⊢
    generalize code n ls = c0 at C h0 ⊢
    clear hi hm h0 hx hk
    go_enter Tryd.func29, Tryd.ntmps29
    go_wp2_with fail
    refine C.out.mono ?_; rintro e w1 ⟨rfl, hb⟩
    have HB := Lib.hid hb
    clear hb C
    go_wp2_with fail
    go_ret
    exact ⟨rfl, HB.out⟩
end Go.Proofs.YtedhippamfioeaaDoor.Spf
