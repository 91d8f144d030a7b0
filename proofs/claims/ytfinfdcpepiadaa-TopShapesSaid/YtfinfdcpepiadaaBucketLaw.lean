/- A refused take, for the laws. No statement is proved here. -/
import Derived.Test.YtfinfdcpepiadaaBucket1
import Derived.Test.YtfinfdcpepiadaaRttIn
namespace Go.Proofs.Ytfinfdcpepiadaa.Bucket
open Go.ChangeShapes Go.WideShapes Go.ChangeAt Go.RowKit Go.Proofs.Ytfinfdcpepiadaa.Kit Go.Proofs.Ytfinfdcpepiadaa.App Go.Proofs.Ytfinfdcpepiadaa.Err
set_option linter.unusedVariables false
set_option maxRecDepth 20000
set_option maxHeartbeats 1000000

/-- A take with a good time and a good number. -/
abbrev GoodT (t a n : Int) : Prop := ((0 ≤ a ∧ a ≤ 1000) ∧ (0 ≤ n ∧ n ≤ 100)) ∧ t ≤ a
theorem take_not (g : Nat) (r d h t a n : Int) (hb : ¬ GoodT t a n) : ∃ c : Int, (c = 1 ∨ c = 7) ∧ ∀ w, Bkt w g r d h t → Calls Try.prog 18 #[.pointer (some ⟨g, 0, none⟩), .int .i64 a, .int .i64 n] w fun e w' => e = .returned (.tuple #[.bool false, .iface 43 (.int .i64 c)]) ∧ w' = w := by
  by_cases hi : (0 ≤ a ∧ a ≤ 1000) ∧ (0 ≤ n ∧ n ≤ 100)
  · refine ⟨7, .inr rfl, fun w hP => ?_⟩
    exact take_state g r d h t a n w hP hi (by unfold GoodT at hb; omega)
  · exact ⟨1, .inl rfl, fun w _ => take_bad g a n w hi⟩
theorem take_yes (g : Nat) (r d h t a n : Int) (hO : Ok r d h t) (hG : GoodT t a n) (hn : n ≤ fill d h (r * (a - t))) : ∀ w, Bkt w g r d h t → Calls Try.prog 18 #[.pointer (some ⟨g, 0, none⟩), .int .i64 a, .int .i64 n] w fun e w' => e = .returned (.tuple #[.bool true, .nilIface]) ∧ Bkt w' g r d (fill d h (r * (a - t)) - n) a ∧ w.grownBy w' (some g) := by
  intro w hP
  have h1 := take_any g r d h t a n w hP hO hG.1 hG.2 _ rfl
  rw [if_pos hn, decide_eq_true hn] at h1
  exact h1
theorem take_less (g : Nat) (r d h t a n : Int) (hO : Ok r d h t) (hG : GoodT t a n) (hn : ¬ n ≤ fill d h (r * (a - t))) : ∀ w, Bkt w g r d h t → Calls Try.prog 18 #[.pointer (some ⟨g, 0, none⟩), .int .i64 a, .int .i64 n] w fun e w' => e = .returned (.tuple #[.bool false, .nilIface]) ∧ Bkt w' g r d (fill d h (r * (a - t))) a ∧ w.grownBy w' (some g) := by
  intro w hP
  have h1 := take_any g r d h t a n w hP hO hG.1 hG.2 _ rfl
  rw [if_neg hn, decide_eq_false hn] at h1
  exact h1
theorem ok_fill {r d h t a n : Int} (hO : Ok r d h t) (hG : GoodT t a n) : Ok r d (fill d h (r * (a - t))) a := by
  obtain ⟨o1, o2, o3, o4, o5, o6, o7, o8⟩ := hO
  obtain ⟨⟨⟨g1, g2⟩, g3, g4⟩, g5⟩ := hG
  obtain ⟨h1, h2⟩ := fill_in (x := r * (a - t)) o5 o6 (Int.mul_nonneg o1 (by omega))
  exact ⟨o1, o2, o3, o4, h1, h2, g1, g2⟩
theorem ok_take {r d h t n : Int} (hO : Ok r d h t) (h0 : 0 ≤ n) (hn : n ≤ h) : Ok r d (h - n) t := by unfold Ok at hO ⊢; omega
theorem ok_new {r d : Int} (h : (0 ≤ r ∧ r ≤ 20) ∧ (0 ≤ d ∧ d ≤ 100)) : Ok r d d 0 := by unfold Ok; omega
end Go.Proofs.Ytfinfdcpepiadaa.Bucket
