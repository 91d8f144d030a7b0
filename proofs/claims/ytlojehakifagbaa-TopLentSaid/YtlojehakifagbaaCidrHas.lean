/- The contract of cidr.Has. No statement is proved here. -/
import Derived.Test.YtlojehakifagbaaCidr1
namespace Go.Proofs.Ytlojehakifagbaa.Cidr
open Go.ChangeShapes Go.WideShapes Go.ChangeAt Go.RowKit Go.Sort Go.Proofs.Ytlojehakifagbaa.Kit Go.Proofs.Ytlojehakifagbaa.App Go.Proofs.Ytlojehakifagbaa.Cells Go.Proofs.Ytlojehakifagbaa.CidrMath
set_option linter.unusedVariables false
set_option maxRecDepth 20000

theorem code_bound (x : Pfx) : code x = 0 ∨ code x = 1 ∨ code x = 3 := by
  unfold code; split
  · split <;> simp
  · simp
theorem er_ne {c : Int} (h : c ≠ 0) : er c = .iface 50 (.int .i64 c) := by unfold er; rw [if_neg h]
theorem er_5 : er 5 = .iface 50 (.int .i64 5) := rfl
/-- What is wrong with a prefix and an address. -/
def code2 (x : Pfx) (a : Int) : Int := if code x = 0 then (if 0 ≤ a ∧ a ≤ 65535 then 0 else 1) else code x
set_option maxHeartbeats 1000000 in
theorem has_bad (x : Pfx) (a : Int) (w : World) (c : Int) (hc : c = code2 x a) (h0 : c ≠ 0) :
    Calls Try.prog 22 #[val x, .int .i64 a] w fun e w' => e = .returned (.tuple #[.bool false, .iface 50 (.int .i64 c)]) ∧ Gr w w' := by
  have CK := Lib.hid (fun W => check_any x W _ rfl)
  unfold val at CK ⊢
  by_cases h1 : code x = 0
  · have hc1 : c = 1 ∧ ¬ (0 ≤ a ∧ a ≤ 65535) := by
      unfold code2 at hc
      rw [if_pos h1] at hc
      by_cases h2 : 0 ≤ a ∧ a ≤ 65535
      · rw [if_pos h2] at hc; exact absurd hc h0
      · rw [if_neg h2] at hc; exact ⟨hc, h2⟩
    obtain ⟨rfl, h2⟩ := hc1
    have IT := Lib.hid (fun W => isAddr_any a W false (by
      by_cases h : 0 ≤ a
      · rw [decide_eq_true h, decide_eq_false (show ¬ a ≤ 65535 by omega)]; rfl
      · rw [decide_eq_false h]; rfl))
    rw [h1, er_0] at CK
    clear hc h0 h1 h2
    go_enter Try.func22, Try.ntmps22
    go_wp2_with fail
    refine (CK.out _).mono ?_; rintro e w1 ⟨rfl, hg1⟩
    have HG := Lib.hid hg1
    clear hg1
    go_wp2_with fail
    refine (IT.out _).mono ?_; rintro e w2 ⟨rfl, rfl⟩
    go_wp2_with fail
    go_ret2
    exact ⟨rfl, (show Gr w (w.alloc _) from ⟨0, _, by rw [alloc_eq_grow]; rfl⟩).trans HG.out⟩
  · have hc1 : c = code x := by rw [hc]; unfold code2; rw [if_neg h1]
    rw [← hc1, er_ne h0] at CK
    clear hc h1 hc1
    go_enter Try.func22, Try.ntmps22
    go_wp2_with fail
    refine (CK.out _).mono ?_; rintro e w1 ⟨rfl, hg1⟩
    have HG := Lib.hid hg1
    clear hg1
    go_wp2_with fail
    go_ret2
    exact ⟨rfl, (show Gr w (w.alloc _) from ⟨0, _, by rw [alloc_eq_grow]; rfl⟩).trans HG.out⟩
set_option maxHeartbeats 1000000 in
theorem has_good (x : Pfx) (a : Int) (w : World) (hx : CidrMath.Good x) (ha : 0 ≤ a ∧ a ≤ 65535) (R : Bool) (hR : R = true ↔ x.adr ≤ a ∧ a < x.adr + siz x) :
    Calls Try.prog 22 #[val x, .int .i64 a] w fun e w' => e = .returned (.tuple #[.bool R, .nilIface]) ∧ Gr w w' := by
  have CK := Lib.hid (fun W => check_any x W 0 ((good_iff x).2 hx).symm)
  have IT := Lib.hid (fun W => isAddr_any a W true (by rw [decide_eq_true ha.1, decide_eq_true ha.2]; rfl))
  obtain ⟨d, j, hj, hxb, hxb2⟩ := good_mem hx
  have hl16 : x.len = 16 - (j : Int) := by rw [hxb]; rfl
  have hxa : 0 ≤ x.adr ∧ x.adr ≤ 65535 := by
    have : x.adr = ((d * 2 ^ j : Nat) : Int) := by rw [hxb]; rfl
    have := pow_pos' j
    omega
  have hzz : siz x = 2 ^ j := by rw [hxb]; exact siz_blk _ j
  have CO := Lib.hid (fun W => comprises_any x j hj hl16 a hxa ha W R (by rw [← hzz]; exact hR))
  rw [er_0] at CK
  unfold val at CK CO ⊢
  have B0 := fun w1 (h : Gr (w.alloc (.cells #[.int .i64 x.adr, .int .i64 x.len] 34)) w1) => (Box.new w x 34).below h.below (by simp)
  clear hx ha hR hxb hxb2 hl16 hxa hzz
  go_enter Try.func22, Try.ntmps22
  go_wp2_with fail
  refine (CK.out _).mono ?_; rintro e w1 ⟨rfl, hg1⟩
  obtain ⟨_, b0, b1⟩ := B0 w1 hg1
  have HG := Lib.hid ((show Gr w (w.alloc _) from ⟨0, _, by rw [alloc_eq_grow]; rfl⟩).trans hg1)
  clear hg1 B0
  go_wp2_with fail
  refine (IT.out _).mono ?_; rintro e w2 ⟨rfl, rfl⟩
  go_wp2_with fail
  refine (CO.out _).mono ?_; rintro e w2 ⟨rfl, hg2⟩
  have HG2 := Lib.hid (HG.out.trans hg2)
  clear hg2
  go_wp2_with fail
  go_ret2
  exact ⟨rfl, HG2.out⟩
end Go.Proofs.Ytlojehakifagbaa.Cidr
