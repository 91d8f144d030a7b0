/- Package rpf: check, hops. No statement is proved here. -/
import Derived.Test.YtedhippamfioeaaDoorSpf6
import Derived.Test.YtedhippamfioeaaDoorRpfMath
import Derived.Test.YtedhippamfioeaaDoorOwnI
import Derived.Test.YtedhippamfioeaaDoorRw1
namespace Go.Proofs.YtedhippamfioeaaDoor.Rpf
open Go.ChangeShapes Go.WideShapes Go.ChangeAt Go.RowKit Go.Proofs.YtedhippamfioeaaDoor.Kit Go.Proofs.YtedhippamfioeaaDoor.App Go.Proofs.YtedhippamfioeaaDoor.Cells Go.Proofs.YtedhippamfioeaaDoor.Err Go.Proofs.YtedhippamfioeaaDoor.Vector Go.Proofs.YtedhippamfioeaaDoor.Spf
set_option linter.unusedVariables false
set_option maxRecDepth 20000
set_option maxHeartbeats 1000000

theorem check_any (n : Int) (p : Option Addr) (cap m : Nat) (ls : List Lk) (q : Option Addr) (cq k : Nat) (xs : List Int) (w : World) (hm : m = ls.length) (hi : CI layL w p cap ls) (hk : k = xs.length) (hx : Ints w q cq xs) (c : Int) (hc : wrong n ls xs = c) :
    Calls Tryd.prog 15 #[.int .i64 n, .slice p m cap, .slice q k cq] w fun e w' => e = .returned (er c) ∧ Below w.heap.size w w' := by
  have C := Lib.hid (Vector.check_any n p cap m ls w hm hi (code n ls) rfl)
  have hk2 : k ≤ 9223372036854775807 := by
    have h1 := hx.1; have h2 := hx.2.1
    unfold maxLen at h2
    omega
  have HX := Lib.hid hx
  have HK := Lib.hid hk
  unfold wrong at hc
  by_cases h0 : code n ls = 0
  · rw [if_pos h0] at hc
    rw [h0, er_0] at C
    have HC := Lib.hid hc
    clear hc h0 hi hm hx hk
    go_enter Tryd.func15, Tryd.ntmps15
    go_wp2_with fail
    refine C.out.mono ?_; rintro e w1 ⟨rfl, hb⟩
    have HB := Lib.hid hb
    clear hb C
    go_wp2_with fail
    go_loopw [18] (fun iv wr => ∃ j : Nat, j ≤ k ∧ iv = .int .i64 j ∧ Hid (∀ i, i < j → ¬ (xs[i]?.getD 0 < 0 ∨ n ≤ xs[i]?.getD 0)) ∧ wr = w1) (fun i _ => k - (intOf i).toNat)
    case atStart => exact ⟨0, Nat.zero_le _, rfl, Lib.hid fun i hi => absurd hi (Nat.not_lt_zero _), rfl⟩
    case round =>
      obtain ⟨j, hj, rfl, HZ, rfl⟩ := hrel
      by_cases hlt : j < k
      · have t0 : decide ((j : Int) < (k : Int)) = true := decide_eq_true (by omega)
        have hjl : j < xs.length := by rw [← HK.out]; exact hlt
        obtain ⟨b, off, rfl, _, hcell⟩ := (HX.out.below HB.out).2.2.2 (by omega)
        have c0 := hcell j hjl
        have HA := Lib.hid (outs_at (n := n) xs j hjl HZ.out)
        have HN := Lib.hid (fun (h : ¬ (xs[j]?.getD 0 < 0 ∨ n ≤ xs[j]?.getD 0)) i (hi : i < j + 1) => (show ¬ (xs[i]?.getD 0 < 0 ∨ n ≤ xs[i]?.getD 0) from by
          by_cases e : i = j
          · rw [e]; exact h
          · exact HZ.out i (by omega)))
        generalize xs[j]?.getD 0 = x at c0 HA HN
        clear hcell hjl
        by_cases h1 : x < 0
        · have t1 : decide (x < 0) = true := decide_eq_true h1
          have HE := Lib.hid (show c = 1 by rw [← HC.out, HA.out (.inl h1)])
          clear h1
          go_wp2_with fail
          go_ret
          exact ⟨by rw [HE.out]; rfl, HB.out⟩
        · have t1 : decide (x < 0) = false := decide_eq_false h1
          by_cases h2 : n ≤ x
          · have t2 : decide (x ≥ n) = true := decide_eq_true h2
            have HE := Lib.hid (show c = 1 by rw [← HC.out, HA.out (.inr h2)])
            clear h1
            go_wp2_with fail
            go_ret
            exact ⟨by rw [HE.out]; rfl, HB.out⟩
          · have t2 : decide (x ≥ n) = false := decide_eq_false h2
            have HN2 := Lib.hid (HN.out (by omega))
            clear h1
            go_wp2_with fail
            go_roundw
            case rel => exact ⟨j + 1, by omega, by first | rfl | go_num, HN2, by first | trivial | rfl⟩
            case measure => simp [intOf]; omega
      · obtain rfl : j = k := by omega
        have t0 : decide ((j : Int) < (j : Int)) = false := decide_eq_false (by omega)
        have HE := Lib.hid (show c = 0 by rw [← HC.out, outs_none xs (fun i hi => HZ.out i (by rw [HK.out]; exact hi))])
        go_wp2_with fail
        go_ret
        exact ⟨by rw [HE.out]; rfl, HB.out⟩
  · rw [if_neg h0] at hc
    subst hc
    rw [er_ne h0] at C ⊢
    generalize code n ls = c0 at C h0 ⊢
    clear hi hm h0 hx hk
    go_enter Tryd.func15, Tryd.ntmps15
    go_wp2_with fail
    refine C.out.mono ?_; rintro e w1 ⟨rfl, hb⟩
    have HB := Lib.hid hb
    clear hb C
    go_wp2_with fail
    go_ret
    exact ⟨rfl, HB.out⟩
end Go.Proofs.YtedhippamfioeaaDoor.Rpf
namespace Go.Proofs.YtedhippamfioeaaDoor.Rpf
open Go.ChangeShapes Go.WideShapes Go.ChangeAt Go.RowKit Go.Proofs.YtedhippamfioeaaDoor.Kit Go.Proofs.YtedhippamfioeaaDoor.App Go.Proofs.YtedhippamfioeaaDoor.Cells Go.Proofs.YtedhippamfioeaaDoor.Err Go.Proofs.YtedhippamfioeaaDoor.Vector Go.Proofs.YtedhippamfioeaaDoor.Spf
set_option linter.unusedVariables false
set_option maxRecDepth 20000
set_option maxHeartbeats 1000000

/-- The first hops towards s of those below k. -/
noncomputable def hp (ls : List Lk) (s k v : Nat) : Int := if v < k then hop ls v s else 0
theorem rw1_eq {n : Nat} {f g : Nat → Int} (h : ∀ k, k < n → f k = g k) : rw1 n f = rw1 n g := List.map_congr_left fun k hk => h k (List.mem_range.1 hk)
theorem hp_zero (n : Nat) (ls : List Lk) (s : Nat) : List.replicate n 0 = rw1 n (hp ls s 0) := by
  refine List.ext_getElem? fun j => ?_
  unfold rw1
  by_cases hj : j < n
  · simp [hj, hp]
  · simp [hj]
theorem hp_next (n : Nat) (ls : List Lk) (s k : Nat) : (rw1 n (hp ls s k)).set k (hop ls k s) = rw1 n (hp ls s (k + 1)) := by
  rw [rw1_set]
  refine rw1_eq fun j _ => ?_
  unfold hp
  by_cases e : j = k
  · subst e; rw [if_pos rfl, if_pos (by omega)]
  · rw [if_neg e]
    by_cases h : j < k
    · rw [if_pos h, if_pos (by omega)]
    · rw [if_neg h, if_neg (by omega)]
theorem hp_all (n : Nat) (ls : List Lk) (s : Nat) : rw1 n (hp ls s n) = rw1 n fun v => hop ls v s := rw1_eq fun j hj => if_pos hj
theorem hops_good (n s : Nat) (p : Option Addr) (cap m : Nat) (ls : List Lk) (w : World) (hm : m = ls.length) (hi : CI layL w p cap ls) (g : Vector.Good n ls) (hs : s < n) :
    Calls Tryd.prog 16 #[.int .i64 (n : Int), .slice p m cap, .int .i64 (s : Int)] w fun e w' => ∃ v, e = .returned (.tuple #[v, .nilIface]) ∧ OwnI w' w.heap.size v (rw1 n fun v => hop ls v s) ∧ Below w.heap.size w w' := by
  have hn8 := g.up
  have hn1 := g.lo
  have C := Lib.hid (fun W (hW : Below w.heap.size w W) k (hk : k < n) => from_own n k p cap m ls W hm (hi.below hW) g hk)
  have HG := Lib.hid g
  obtain ⟨w2, hmk, ho2, hg2⟩ := made_ints w n (by omega)
  have HB2 := Lib.hid (show Below w.heap.size w w2 from (brefl w).grown hg2 (Nat.le_refl _) (fun k hk => by cases hk))
  obtain ⟨G, hG⟩ : ∃ G, w.heap.size = G := ⟨_, rfl⟩
  rw [hp_zero n ls s] at ho2
  rw [hG] at hmk ho2
  have HO0 := Lib.hid ho2
  have HGG := Lib.hid hG
  clear hm hi g ho2 hg2 hG
  go_enter Tryd.func16, Tryd.ntmps16
  go_wp2_with fail
  clear hmk
  go_loopw [17] (fun iv wr => ∃ k : Nat, k ≤ n ∧ iv = .int .i64 k ∧ Hid (OwnI wr G (.slice (some ⟨G, 0, none⟩) n n) (rw1 n (hp ls s k))) ∧ Hid (Below w.heap.size w wr)) (fun i _ => n - (intOf i).toNat)
  case atStart => exact ⟨0, Nat.zero_le _, rfl, HO0, HB2⟩
  case round =>
    obtain ⟨k, hk, rfl, HO, HR⟩ := hrel
    clear HO0
    by_cases hlt : k < n
    · have t0 : decide ((k : Int) < (n : Int)) = true := decide_eq_true (by omega)
      have hlt' : (k : Int) < (n : Int) := by omega
      have hs' : (s : Int) < (n : Int) := by omega
      have CC := Lib.hid (C.out wr HR.out k hlt)
      go_wp2_with fail
      refine CC.out.mono ?_; rintro e w3 ⟨u, v, rfl, hu, hv, hb3⟩
      obtain ⟨g3, c3, rfl, _, _, _, _⟩ := own_pos hv (by rw [rw1_len]; omega)
      obtain ⟨q4, c4, rfl, _⟩ := hu.form
      have x3 := own_cell hv s (by rw [rw1_len]; exact hs)
      rw [rw1_get _ _ hs] at x3
      rw [rw1_len, rw1_len]
      have HO3 := Lib.hid (HO.out.below hb3)
      have HR3 := Lib.hid (bcall HR.out hb3)
      have cx := own_cell HO3.out k (by rw [rw1_len]; exact hlt)
      have fx := own_fz HO3.out k
      have HS := Lib.hid (show OwnI (w3.setCell ⟨G, k, none⟩ (.int .i64 (hop ls k s))) G (.slice (some ⟨G, 0, none⟩) n n) (rw1 n (hp ls s (k + 1))) from by
        rw [← hp_next]
        exact own_set HO3.out k (hop ls k s) (wf_hop (hop_b HG.out k s)))
      have HB4 := Lib.hid (show Below w.heap.size w (w3.setCell ⟨G, k, none⟩ (.int .i64 (hop ls k s))) from below_set HR3.out G k _ (by rw [HGG.out]; exact Nat.le_refl _))
      generalize hop ls k s = h3 at x3 HS HB4
      clear hb3 HO CC hu hv
      go_wp2_with fail
      go_roundw
      case rel => exact ⟨k + 1, by omega, by first | rfl | go_num, HS, HB4⟩
      case measure => simp [intOf]; omega
    · obtain rfl : k = n := by omega
      have t0 : decide ((k : Int) < (k : Int)) = false := decide_eq_false (by omega)
      have HO5 := Lib.hid (show OwnI wr w.heap.size (.slice (some ⟨G, 0, none⟩) k k) (rw1 k fun v => hop ls v s) from by rw [← hp_all, HGG.out]; exact HO.out)
      go_wp2_with fail
      go_ret2
      exact ⟨_, rfl, HO5.out, HR.out⟩
end Go.Proofs.YtedhippamfioeaaDoor.Rpf
