/- The contract of srep.span. No statement is proved here. -/
import Derived.Test.YthiebkkfgegebaaSrepMath
import Derived.Test.YthiebkkfgegebaaSub
import Derived.OwnWalk
import Derived.BigQuiet
namespace Go.Proofs.Ythiebkkfgegebaa.Srep
open Go.ChangeShapes Go.WideShapes Go.ChangeAt Go.RowKit Go.Proofs.Ythiebkkfgegebaa.Kit Go.Proofs.Ythiebkkfgegebaa.App Go.Proofs.Ythiebkkfgegebaa.SrepMath
set_option linter.unusedVariables false
set_option maxRecDepth 20000

/-- Numbers as integers. -/
def zs (l : List Nat) : List Int := l.map fun (n : Nat) => (n : Int)
theorem zs_len (l : List Nat) : (zs l).length = l.length := List.length_map ..
theorem zs_append (a b : List Nat) : zs (a ++ b) = zs a ++ zs b := List.map_append ..
theorem zs_cons (a : Nat) (l : List Nat) : zs (a :: l) = (a : Int) :: zs l := rfl

set_option maxHeartbeats 1000000 in
theorem span_any (a b : Nat) (w : World) (ha : a ≤ 1000000) (hb : b ≤ 1000000) :
    Calls Try.prog 15 #[.int .i64 a, .int .i64 b] w fun e w' => ∃ v, e = .returned v ∧ OwnI w' w.heap.size v (zs (spn a b)) ∧ Below w.heap.size w w' := by
  go_enter Try.func15, Try.ntmps15
  go_wp2_with fail
  go_loopw [5, 6] (fun v iv wr => ∃ k : Nat, a ≤ k ∧ (k ≤ b ∨ k = a) ∧ iv = .int .i64 k ∧ OwnI wr w.heap.size v (zs (spn a k)) ∧ Below w.heap.size w wr) (fun _ iv _ => b - (intOf iv).toNat)
  case atStart => exact ⟨a, Nat.le_refl _, .inr rfl, rfl, by rw [spn_nil (Nat.le_refl _)]; exact OwnI.nil _ _, brefl _⟩
  case round =>
    obtain ⟨k, hak, hkb, rfl, hown, hB⟩ := hrel
    have hBs := hB.size
    by_cases hlt : k < b
    · have hk1 : k ≤ 1000000 := by omega
      have hlen : (zs (spn a k)).length ≤ 1000000 := by rw [zs_len, spn_len]; omega
      have hwf : (Lit.int .i64 (k : Int)).wf = true := MapF.wfN hk1
      have HE := Lib.hid (show zs (spn a (k + 1)) = zs (spn a k) ++ [(k : Int)] by rw [spn_end hak, zs_append]; rfl)
      clear hkb
      go_wp2_with (at_builtin
                   refine wp_app rfl (.tmp 13) (.tmp 15) rfl w.heap.size _ (zs (spn a k)) (some ⟨wr.heap.size, 0, none⟩) 1 1 [(k : Int)] rfl (hown.alloc _) rfl rfl (Ints.one wr _ hwf) (by simp; omega) (Nat.le_trans hBs (by simp)) ?_
                   intro v1 wa hown1 hg1 hat1
                   have hb1 : Below w.heap.size w wa := below_one hB hBs _ hown hg1
                   clear hat1 hg1)
      go_roundw
      case rel => exact ⟨k + 1, by omega, .inl (by omega), by first | rfl | go_num, by rw [HE.out]; exact hown1, hb1⟩
      case measure => simp [intOf]; omega
    · have HO := Lib.hid (show OwnI wr w.heap.size _ (zs (spn a b)) ∧ Below w.heap.size w wr from ⟨by
        rcases Nat.lt_or_ge a b with h | h
        · obtain rfl : k = b := by omega
          exact hown
        · have : k = a := by omega
          rw [spn_nil h]
          rw [this, spn_nil (Nat.le_refl _)] at hown
          exact hown, hB⟩)
      clear hown
      go_wp2_with fail
      go_ret
      exact ⟨_, rfl, HO.out.1, HO.out.2⟩
end Go.Proofs.Ythiebkkfgegebaa.Srep
