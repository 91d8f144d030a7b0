/- The contract of the document's Prefix. No statement is proved here. -/
import Derived.Test.YtapaglapngbbpaaDoorCidrRef
import Derived.Test.YtapaglapngbbpaaDoorCidr1
namespace Go.Proofs.YtapaglapngbbpaaDoor.Cidr
open Go.ChangeShapes Go.WideShapes Go.ChangeAt Go.RowKit Go.Sort Go.Proofs.YtapaglapngbbpaaDoor.Kit Go.Proofs.YtapaglapngbbpaaDoor.App Go.Proofs.YtapaglapngbbpaaDoor.Cells Go.Proofs.YtapaglapngbbpaaDoor.CidrMath
set_option linter.unusedVariables false
set_option maxRecDepth 20000

set_option maxHeartbeats 1000000 in
theorem rprefix_any (x : Pfx) (w : World) (R : Int) (hR : R = code x) : Calls Tryd.prog 12 #[val x] w fun e w' => e = .returned (.int .i64 R) ∧ Gr w w' := by
  obtain ⟨a, l⟩ := x
  have IA := Lib.hid (fun W => rin a 0 65535 W)
  have IL := Lib.hid (fun W => rin l 0 16 W)
  show Calls Tryd.prog 12 #[.agg #[.int .i64 a, .int .i64 l]] w _
  by_cases h1 : 0 ≤ a ∧ a ≤ 65535
  · have b1 : true = (decide (0 ≤ a) && decide (a ≤ 65535)) := by rw [decide_eq_true h1.1, decide_eq_true h1.2]; rfl
    have IT := Lib.hid (fun W => IA.out W true b1)
    clear b1
    by_cases h2 : 0 ≤ l ∧ l ≤ 16
    · have b2 : true = (decide (0 ≤ l) && decide (l ≤ 16)) := by rw [decide_eq_true h2.1, decide_eq_true h2.2]; rfl
      have LT := Lib.hid (fun W => IL.out W true b2)
      clear b2
      obtain ⟨k, hk⟩ : ∃ k : Nat, (k : Int) = 16 - l := ⟨(16 - l).toNat, by omega⟩
      have hk16 : k ≤ 16 := by omega
      have hl : l = 16 - (k : Int) := by omega
      have hz : siz ⟨a, l⟩ = 2 ^ k := by rw [hl]; exact siz_blk 0 k
      obtain ⟨z, hzz⟩ : ∃ z, 2 ^ k = z := ⟨_, rfl⟩
      have hz2 : z ≤ 65536 := by rw [← hzz]; exact Nat.le_trans (Nat.pow_le_pow_right (by omega) hk16) (by omega)
      have hz1 : 0 < z := by rw [← hzz]; exact pow_pos' k
      have hc : R = if a % (z : Int) = 0 then 0 else 3 := by rw [hR]; unfold code; rw [if_pos (by simp only; omega), hz, hzz]
      have PW := Lib.hid (fun W => (rpower k (k : Int) rfl (by omega) W z hzz.symm).mono (R' := fun e w' => e = .returned (.int .i64 z) ∧ ∃ q os', w' = grow (W.drewN q) os') fun e w' ⟨h1, h2⟩ => ⟨h1, 0, #[], by rw [grow_empty, ← h2]; rfl⟩)
      have HC := Lib.hid hc
      have hwk : IntKind.i64.wrap (16 - l) = (k : Int) := by rw [IntKind.wrap_i64]; omega
      have hk' : (16 : Int) - l = (k : Int) := by omega
      have hwk2 : IntKind.i64.wrap (k : Int) = (k : Int) := by rw [IntKind.wrap_i64]; omega
      clear hR IA IL hc hz hzz hl hk
      have B0 := Box.new w ⟨a, l⟩ 36
      simp only at B0
      have g0 := fun n os => (Box.grown B0 n os).1
      have g1 := fun n os => (Box.grown B0 n os).2
      simp only at g0 g1
      have hcg := fun n os => PW.out (grow ((w.alloc (.cells #[.int .i64 a, .int .i64 l] 36)).drewN n) os)
      have hne : (z : Int) ≠ 0 := by omega
      have hne9 : z ≠ 0 := by omega
      have hm : a.tmod (z : Int) = a % (z : Int) := by rw [Int.tmod_eq_emod_of_nonneg (by omega)]
      obtain ⟨m, hmm⟩ : ∃ m, a % (z : Int) = m := ⟨_, rfl⟩
      rw [hmm] at hm HC
      have hm0 : 0 ≤ m := by rw [← hmm]; exact Int.emod_nonneg _ hne
      have hm1 : m < 65536 := by rw [← hmm]; have := Int.emod_lt_of_pos a (show (0 : Int) < z by omega); omega
      have hmix := mixed
      clear B0 hmm
      by_cases hm9 : m = 0
      · subst hm9
        have hc : R = 0 := by rw [HC.out, if_pos rfl]
        clear HC
        subst hc
        go_enter Tryd.func12, Tryd.ntmps12
        go_wp2_with fail
        refine (IT.out _).mono ?_; rintro e w1 ⟨rfl, rfl⟩
        go_wp2_with fail
        refine (LT.out _).mono ?_; rintro e w1 ⟨rfl, rfl⟩
        go_wp2_with fail
        go_quiet_grown (refine Calls.grown_of (hcg _ _))
        go_wp2_with fail
        go_ret
        exact ⟨rfl, _, _, by rw [alloc_eq_grow, drewN_grow_grow]⟩
      · have hc : R = 3 := by rw [HC.out, if_neg hm9]
        clear HC
        subst hc
        have t9 : (m != 0) = true := by simpa using hm9
        go_enter Tryd.func12, Tryd.ntmps12
        go_wp2_with fail
        refine (IT.out _).mono ?_; rintro e w1 ⟨rfl, rfl⟩
        go_wp2_with fail
        refine (LT.out _).mono ?_; rintro e w1 ⟨rfl, rfl⟩
        go_wp2_with fail
        go_quiet_grown (refine Calls.grown_of (hcg _ _))
        go_wp2_with fail
        go_ret
        exact ⟨rfl, _, _, by rw [alloc_eq_grow, drewN_grow_grow]⟩
    · have hc : R = 1 := by rw [hR]; unfold code; rw [if_neg (by simp only; omega)]
      have b2 : false = (decide (0 ≤ l) && decide (l ≤ 16)) := by
        by_cases h : 0 ≤ l
        · rw [decide_eq_true h, decide_eq_false (show ¬ l ≤ 16 by omega)]; rfl
        · rw [decide_eq_false h]; rfl
      have LT := Lib.hid (fun W => IL.out W false b2)
      clear b2
      clear hR IA IL
      subst hc
      go_enter Tryd.func12, Tryd.ntmps12
      go_wp2_with fail
      refine (IT.out _).mono ?_; rintro e w1 ⟨rfl, rfl⟩
      go_wp2_with fail
      refine (LT.out _).mono ?_; rintro e w1 ⟨rfl, rfl⟩
      go_wp2_with fail
      go_ret
      exact ⟨rfl, 0, _, by rw [alloc_eq_grow]; rfl⟩
  · have hc : R = 1 := by rw [hR]; unfold code; rw [if_neg (by simp only; omega)]
    have b1 : false = (decide (0 ≤ a) && decide (a ≤ 65535)) := by
      by_cases h : 0 ≤ a
      · rw [decide_eq_true h, decide_eq_false (show ¬ a ≤ 65535 by omega)]; rfl
      · rw [decide_eq_false h]; rfl
    have IT := Lib.hid (fun W => IA.out W false b1)
    clear b1
    clear hR IA
    subst hc
    go_enter Tryd.func12, Tryd.ntmps12
    go_wp2_with fail
    refine (IT.out _).mono ?_; rintro e w1 ⟨rfl, rfl⟩
    go_wp2_with fail
    go_ret
    exact ⟨rfl, 0, _, by rw [alloc_eq_grow]; rfl⟩
end Go.Proofs.YtapaglapngbbpaaDoor.Cidr
