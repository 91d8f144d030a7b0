/- The document's answer on distances: in, Links. No statement is proved here. -/
import Derived.Test.YtedhippamfioeaaDoorVecCost
import Derived.Test.YtedhippamfioeaaDoorVecSmall
import Derived.Test.YtedhippamfioeaaDoorLink
import Derived.Test.YtedhippamfioeaaDoorSub
namespace Go.Proofs.YtedhippamfioeaaDoor.Vector
open Go.ChangeShapes Go.WideShapes Go.ChangeAt Go.RowKit Go.Proofs.YtedhippamfioeaaDoor.Kit Go.Proofs.YtedhippamfioeaaDoor.App Go.Proofs.YtedhippamfioeaaDoor.Cells Go.Proofs.YtedhippamfioeaaDoor.Err
set_option linter.unusedVariables false
set_option maxRecDepth 20000
set_option maxHeartbeats 2000000

theorem rin_any (n a b : Int) (w : World) (R : Bool) (hR : R = (decide (a ≤ n) && decide (n ≤ b))) : Calls Tryd.prog 12 #[.int .i64 n, .int .i64 a, .int .i64 b] w fun e w' => e = .returned (.bool R) ∧ w' = w := by
  subst hR
  by_cases h1 : a ≤ n
  · have t1 : decide (a ≤ n) = true := decide_eq_true h1
    go_enter Tryd.func12, Tryd.ntmps12
    go_wp2_with fail
    go_ret
    exact ⟨by rw [t1]; simp, rfl⟩
  · have t1 : decide (a ≤ n) = false := decide_eq_false h1
    go_enter Tryd.func12, Tryd.ntmps12
    go_wp2_with fail
    go_ret
    exact ⟨rfl, rfl⟩
theorem rlinks_any (n : Int) (p : Option Addr) (cap m : Nat) (ls : List Lk) (w : World) (hm : m = ls.length) (hi : CI layL w p cap ls) (c : Int) (hc : code n ls = c) :
    Calls Tryd.prog 4 #[.int .i64 n, .slice p m cap] w fun e w' => e = .returned (.int .i64 c) ∧ Below w.heap.size w w' := by
  have hlen := hi.len_le
  rw [← hm] at hlen
  unfold code at hc
  rw [← hm] at hc
  by_cases h1 : n < 1 ∨ 8 < n
  · have IN := Lib.hid (fun W => rin_any n 1 8 W false (in_false (by omega)))
    rw [if_pos h1] at hc
    subst hc
    clear hm hi h1
    go_enter Tryd.func4, Tryd.ntmps4
    go_wp2_with fail
    refine (IN.out w).mono ?_; rintro e w1 ⟨rfl, rfl⟩
    go_wp2_with fail
    go_ret
    exact ⟨rfl, brefl w1⟩
  rw [if_neg h1] at hc
  have IN := Lib.hid (fun W => rin_any n 1 8 W true (in_true ⟨by omega, by omega⟩))
  by_cases h3 : 32 < m
  · have t3 : decide ((m : Int) > 32) = true := decide_eq_true (by omega)
    rw [if_pos h3] at hc
    subst hc
    clear hm hi h1 h3
    go_enter Tryd.func4, Tryd.ntmps4
    go_wp2_with fail
    refine (IN.out w).mono ?_; rintro e w1 ⟨rfl, rfl⟩
    go_wp2_with fail
    go_ret
    exact ⟨rfl, brefl w1⟩
  have t3 : decide ((m : Int) > 32) = false := decide_eq_false (by omega)
  rw [if_neg h3] at hc
  obtain ⟨q, hq⟩ : ∃ q, n - 1 = q := ⟨_, rfl⟩
  have hwq : IntKind.i64.wrap (n - 1) = q := by rw [← hq]; exact wrap_in (n := n - 1) ⟨by omega, by omega⟩
  have HC := Lib.hid hc
  have HI := Lib.hid hi
  have HM := Lib.hid hm
  have HQ := Lib.hid hq
  clear hc hi hm h1 h3 hq
  go_enter Tryd.func4, Tryd.ntmps4
  go_wp2_with fail
  refine (IN.out w).mono ?_; rintro e w1 ⟨rfl, hw1⟩
  rw [hw1]
  clear hw1 w1 IN
  go_wp2_with fail
  go_loopw [5] (fun iv wr => ∃ j : Nat, j ≤ m ∧ iv = .int .i64 j ∧ Hid (Below w.heap.size w wr) ∧ Hid (∀ i, i < j → bad1 n (lk ls i) = 0)) (fun i _ => m - (intOf i).toNat)
  case atStart => exact ⟨0, Nat.zero_le _, rfl, Lib.hid (brefl _), Lib.hid fun j hj => absurd hj (Nat.not_lt_zero _)⟩
  case round =>
    obtain ⟨j, hj, rfl, HBW, HZ⟩ := hrel
    by_cases hjm : j < m
    · have v1 : decide ((j : Int) < (m : Int)) = true := decide_eq_true (by omega)
      have v1' : (j : Int) < (m : Int) := by omega
      have hjl : j < ls.length := by rw [← HM.out]; exact hjm
      obtain ⟨b, off, rfl, hb, hat⟩ := links_at HI.out (by omega)
      obtain ⟨x0, x1, x2⟩ := hat wr HBW.out j hjl
      obtain ⟨d, hd⟩ : ∃ d, bad1 n (lk ls j) = d := ⟨_, rfl⟩
      have HD := Lib.hid hd
      have HJL := Lib.hid hjl
      have HFIN := Lib.hid (fun (h : d ≠ 0) => (show d = c by rw [← HC.out, bads_at ls j HJL.out HZ.out (by rw [HD.out]; exact h), HD.out]))
      have HNX := Lib.hid (fun (h : d = 0) => (show ∀ i, i < j + 1 → bad1 n (lk ls i) = 0 from fun i hi => by
        by_cases e : i = j
        · rw [e, HD.out, h]
        · exact HZ.out i (by omega)))
      unfold bad1 at hd
      obtain ⟨x, hx⟩ : ∃ x, lk ls j = x := ⟨_, rfl⟩
      rw [hx] at x0 x1 x2 hd
      obtain ⟨xa, xb, xc⟩ := x
      simp only at x0 x1 x2 hd
      have hqq := HQ.out
      clear hat hx hb hjl
      by_cases h1 : 0 ≤ xa ∧ xa ≤ q
      · have I1 := Lib.hid (fun W => rin_any xa 0 q W true (in_true h1))
        by_cases h2 : 0 ≤ xb ∧ xb ≤ q
        · have I2 := Lib.hid (fun W => rin_any xb 0 q W true (in_true h2))
          by_cases h3 : 1 ≤ xc ∧ xc ≤ 20
          · have I3 := Lib.hid (fun W => rin_any xc 1 20 W true (in_true h3))
            rw [if_neg (by omega)] at hd
            by_cases h4 : xa = xb
            · subst h4
              have t4 : (xa == xa) = true := by simp
              rw [if_pos rfl] at hd
              have HE := Lib.hid (show c = 3 by rw [hd, ← HFIN.out (by omega)])
              clear h1 h2 h3 hd hqq
              go_wp2_with fail
              refine (I1.out wr).mono ?_; rintro e w1 ⟨rfl, rfl⟩
              go_wp2_with fail
              refine (I2.out w1).mono ?_; rintro e w2 ⟨rfl, rfl⟩
              go_wp2_with fail
              refine (I3.out w2).mono ?_; rintro e w3 ⟨rfl, rfl⟩
              have HB3 := Lib.hid (fun k => bdrewN HBW.out k)
              go_wp2_with fail
              go_quiet (fail)
              go_wp2_with fail
              go_ret
              exact ⟨by rw [HE.out]; rfl, HB3.out _⟩
            · have t4 : (xa == xb) = false := by rw [beq_eq_false_iff_ne]; exact h4
              rw [if_neg h4] at hd
              have HZ2 := Lib.hid (HNX.out hd.symm)
              clear h1 h2 h3 h4 hd hqq
              go_wp2_with fail
              refine (I1.out wr).mono ?_; rintro e w1 ⟨rfl, rfl⟩
              go_wp2_with fail
              refine (I2.out w1).mono ?_; rintro e w2 ⟨rfl, rfl⟩
              go_wp2_with fail
              refine (I3.out w2).mono ?_; rintro e w3 ⟨rfl, rfl⟩
              have HB3 := Lib.hid (fun k => bdrewN HBW.out k)
              go_wp2_with fail
              go_quiet (fail)
              go_wp2_with fail
              go_roundw
              case rel => exact ⟨j + 1, by omega, by first | rfl | go_num, Lib.hid (HB3.out _), HZ2⟩
              case measure => simp [intOf]; omega
          · have I3 := Lib.hid (fun W => rin_any xc 1 20 W false (in_false h3))
            rw [if_pos (by omega)] at hd
            have HE := Lib.hid (show c = 1 by rw [hd, ← HFIN.out (by omega)])
            clear h1 h2 h3 hd hqq
            go_wp2_with fail
            refine (I1.out wr).mono ?_; rintro e w1 ⟨rfl, rfl⟩
            go_wp2_with fail
            refine (I2.out w1).mono ?_; rintro e w2 ⟨rfl, rfl⟩
            go_wp2_with fail
            refine (I3.out w2).mono ?_; rintro e w3 ⟨rfl, rfl⟩
            go_wp2_with fail
            go_ret
            exact ⟨by rw [HE.out]; rfl, HBW.out⟩
        · have I2 := Lib.hid (fun W => rin_any xb 0 q W false (in_false h2))
          rw [if_pos (by omega)] at hd
          have HE := Lib.hid (show c = 1 by rw [hd, ← HFIN.out (by omega)])
          clear h1 h2 hd hqq
          go_wp2_with fail
          refine (I1.out wr).mono ?_; rintro e w1 ⟨rfl, rfl⟩
          go_wp2_with fail
          refine (I2.out w1).mono ?_; rintro e w2 ⟨rfl, rfl⟩
          go_wp2_with fail
          go_ret
          exact ⟨by rw [HE.out]; rfl, HBW.out⟩
      · have I1 := Lib.hid (fun W => rin_any xa 0 q W false (in_false h1))
        rw [if_pos (by omega)] at hd
        have HE := Lib.hid (show c = 1 by rw [hd, ← HFIN.out (by omega)])
        clear h1 hd hqq
        go_wp2_with fail
        refine (I1.out wr).mono ?_; rintro e w1 ⟨rfl, rfl⟩
        go_wp2_with fail
        go_ret
        exact ⟨by rw [HE.out]; rfl, HBW.out⟩
    · obtain rfl : j = m := by omega
      have v1 : decide ((j : Int) < (j : Int)) = false := decide_eq_false (by omega)
      have HE := Lib.hid (show c = 0 by rw [← HC.out]; exact bads_none fun i hi => HZ.out i (by rw [HM.out]; exact hi))
      go_wp2_with fail
      go_ret
      exact ⟨by rw [HE.out]; rfl, HBW.out⟩
end Go.Proofs.YtedhippamfioeaaDoor.Vector
