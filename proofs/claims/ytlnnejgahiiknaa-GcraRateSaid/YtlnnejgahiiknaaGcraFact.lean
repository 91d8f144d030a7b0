/- gcraFact. No statement is proved here. -/
import Derived.Test.YtlnnejgahiiknaaGcraLeak
import Derived.Test.YtlnnejgahiiknaaSub
namespace Go.Proofs.Ytlnnejgahiiknaa.Gcra
open Go.ChangeShapes Go.WideShapes Go.ChangeAt Go.RowKit Go.Proofs.Ytlnnejgahiiknaa.Kit Go.Proofs.Ytlnnejgahiiknaa.App Go.Proofs.Ytlnnejgahiiknaa.Err Go.Proofs.Ytlnnejgahiiknaa.GcraMath Go.Proofs.Ytlnnejgahiiknaa.Gcra Go.Proofs.Ytlnnejgahiiknaa.Truth
set_option linter.unusedVariables false
set_option maxRecDepth 20000
set_option maxHeartbeats 1000000

theorem fact_any (w : World) : Calls Try.prog 7 #[] w fun e w' => e = .returned (.bool true) ∧ Below w.heap.size w w' := by
  have L1 := Lib.hid (fun W : World => leak_yes 3 2 (some ⟨W.heap.size, 0, none⟩) 4 4 [0, 1, 2, 6] (W.alloc (.cells #[.int .i64 0, .int .i64 1, .int .i64 2, .int .i64 6] 3)) rfl (lit_ints W [0, 1, 2, 6] (by decide) (by decide)) (by decide))
  rw [show mays 3 2 [0, 1, 2, 6] = [true, true, false, true] by decide] at L1
  go_enter Try.func7, Try.ntmps7
  go_wp2_with fail
  refine (L1.out _).mono ?_; rintro e w1 ⟨rfl, ho, hb1⟩
  have HB1 : Hid (Below w.heap.size w w1) := Lib.hid ((balloc (brefl w) _).trans (hb1.mono (by simp)))
  have HT1 := Lib.hid ho.tru.2
  clear ho hb1 L1
  generalize (w.alloc (.cells #[.int .i64 0, .int .i64 1, .int .i64 2, .int .i64 6] 3)).heap.size = b at HT1 ⊢
  have N := Lib.hid (new_good 3 2 w1 (by decide))
  go_wp2_with fail
  refine N.out.mono ?_; rintro e w2 ⟨rfl, hG, hb2⟩
  obtain ⟨g, hg⟩ : ∃ g, w1.heap.size = g := ⟨_, rfl⟩
  have HG := Lib.hid (Nat.le_of_eq hg)
  rw [hg] at hG ⊢
  have C1 := Lib.hid (come_any g 3 2 0 0 0 w2 hG (by unfold Ok Right; omega) (by omega) (by omega))
  rw [show decide ((0 : Int) - 2 ≤ 0) = true by decide, show nxt 3 2 0 0 = 3 by decide] at C1
  have HB2 := Lib.hid hb2
  clear hG hb2 N hg
  go_wp2_with fail
  refine C1.out.mono ?_; rintro e w3 ⟨rfl, hG, hg3⟩
  have C2 := Lib.hid (come_any g 3 2 3 0 0 w3 hG (by unfold Ok Right; omega) (by omega) (by omega))
  rw [show decide ((3 : Int) - 2 ≤ 0) = false by decide, show nxt 3 2 3 0 = 3 by decide] at C2
  have HB3 := Lib.hid (gbelow HB2.out (Nat.le_refl _) hg3 HG.out)
  clear hG hg3 HB2 C1
  go_wp2_with fail
  refine C2.out.mono ?_; rintro e w4 ⟨rfl, hG, hg4⟩
  have HB4 := Lib.hid (gbelow HB3.out (Nat.le_refl _) hg4 HG.out)
  have HG4 := Lib.hid hG
  clear hG hg4 HB3 C2
  have BB := Lib.hid (bools_any (some ⟨b, 0, none⟩) (some ⟨w4.heap.size, 0, none⟩) 4 4 4 4 [true, true, false, true] [true, true, false, true] (w4.alloc (.cells #[.bool true, .bool true, .bool false, .bool true] 4)) rfl rfl ((HT1.out.below HB4.out).below (balloc (brefl _) _)) (lit_truth w4 [true, true, false, true] _ (by decide)) true rfl)
  have HB5 := Lib.hid (bcall HB1.out (bcall HB4.out (balloc (brefl w4) (.cells #[.bool true, .bool true, .bool false, .bool true] 4))))
  have HG5 := Lib.hid (HG4.out.below (balloc (brefl w4) (.cells #[.bool true, .bool true, .bool false, .bool true] 4)))
  go_wp2_with fail
  refine BB.out.mono ?_; rintro e w5 ⟨rfl, m5, rfl⟩
  have NX := Lib.hid (next_any g 3 2 3 0 _ (HG5.out.drewN m5))
  have HB6 := Lib.hid (bdrewN HB5.out m5)
  clear BB HG5 HB5
  generalize (w4.alloc (.cells #[.bool true, .bool true, .bool false, .bool true] 4)).drewN m5 = w6 at NX HB6 ⊢
  go_wp2_with fail
  refine NX.out.mono ?_; rintro e w7 ⟨rfl, rfl⟩
  go_wp2_with fail
  go_ret
  exact ⟨by first | rfl | simp, HB6.out⟩
end Go.Proofs.Ytlnnejgahiiknaa.Gcra
