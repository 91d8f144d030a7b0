/- The constants and errors of package api are the document's: the closed law returns true. No condition. -/
import Derived.Test.YtcdpkdhapdajgaaRows
import Derived.Test.YtcdpkdhapdajgaaKit
import Derived.WalkKit
import Derived.ProofKit
import Derived.OpenShut
import Derived.JoinedCond
import Derived.LoopTactic
namespace Go.Proofs.Ytcdpkdhapdajgaa.namesP
open Go.Proofs.Ytcdpkdhapdajgaa.Kit
open Go.ChangeShapes Go.WideShapes Go.ChangeAt Go.RowKit
set_option linter.unusedVariables false

theorem err0 (w : World) :
    Calls Try.prog 7 #[.int .i64 0] w fun e w' => e = .returned (.string ⟨#[79, 75]⟩) ∧ w = w' := by
  go_enter Try.func7, Try.ntmps7
  go_wp2
  go_ret
  exact ⟨rfl, rfl⟩

theorem err1 (w : World) :
    Calls Try.prog 7 #[.int .i64 1] w fun e w' => e = .returned (.string ⟨#[69, 114, 114, 82, 97, 110, 103, 101]⟩) ∧ w = w' := by
  go_enter Try.func7, Try.ntmps7
  go_wp2
  go_ret
  exact ⟨rfl, rfl⟩

theorem err2 (w : World) :
    Calls Try.prog 7 #[.int .i64 2] w fun e w' => e = .returned (.string ⟨#[69, 114, 114, 83, 121, 110, 116, 97, 120]⟩) ∧ w = w' := by
  go_enter Try.func7, Try.ntmps7
  go_wp2
  go_ret
  exact ⟨rfl, rfl⟩

theorem err3 (w : World) :
    Calls Try.prog 7 #[.int .i64 3] w fun e w' => e = .returned (.string ⟨#[69, 114, 114, 83, 104, 97, 112, 101]⟩) ∧ w = w' := by
  go_enter Try.func7, Try.ntmps7
  go_wp2
  go_ret
  exact ⟨rfl, rfl⟩

theorem err4 (w : World) :
    Calls Try.prog 7 #[.int .i64 4] w fun e w' => e = .returned (.string ⟨#[69, 114, 114, 70, 117, 108, 108]⟩) ∧ w = w' := by
  go_enter Try.func7, Try.ntmps7
  go_wp2
  go_ret
  exact ⟨rfl, rfl⟩

theorem err5 (w : World) :
    Calls Try.prog 7 #[.int .i64 5] w fun e w' => e = .returned (.string ⟨#[69, 114, 114, 78, 111, 110, 101]⟩) ∧ w = w' := by
  go_enter Try.func7, Try.ntmps7
  go_wp2
  go_ret
  exact ⟨rfl, rfl⟩

theorem err6 (w : World) :
    Calls Try.prog 7 #[.int .i64 6] w fun e w' => e = .returned (.string ⟨#[69, 114, 114, 67, 108, 97, 115, 104]⟩) ∧ w = w' := by
  go_enter Try.func7, Try.ntmps7
  go_wp2
  go_ret
  exact ⟨rfl, rfl⟩

theorem err7 (w : World) :
    Calls Try.prog 7 #[.int .i64 7] w fun e w' => e = .returned (.string ⟨#[69, 114, 114, 83, 116, 97, 116, 101]⟩) ∧ w = w' := by
  go_enter Try.func7, Try.ntmps7
  go_wp2
  go_ret
  exact ⟨rfl, rfl⟩

theorem walk (w : World) : Calls Try.prog 3 #[] w fun e w' => e = .returned (.bool true) ∧ Below w.heap.size w w' := by
  go_enter Try.func3, Try.ntmps3
  go_wp2
  go_loop [4, 5, 6] (fun i _ _ => i = .int .i64 0 ∨ i = .int .i64 1 ∨ i = .int .i64 2 ∨ i = .int .i64 3 ∨ i = .int .i64 4 ∨ i = .int .i64 5 ∨ i = .int .i64 6 ∨ i = .int .i64 7 ∨ i = .int .i64 8) (fun i _ _ => 8 - (intOf i).toNat)
  case atStart => exact .inl rfl
  case round =>
    rcases hrel with rfl|rfl|rfl|rfl|rfl|rfl|rfl|rfl|rfl
    · go_wp2_with (go_at_call 7; refine (err0 _).mono ?_; rintro e w' ⟨rfl, rfl⟩)
      go_round
      case rel => simp
      case measure => simp [intOf]
    · go_wp2_with (go_at_call 7; refine (err1 _).mono ?_; rintro e w' ⟨rfl, rfl⟩)
      go_round
      case rel => simp
      case measure => simp [intOf]
    · go_wp2_with (go_at_call 7; refine (err2 _).mono ?_; rintro e w' ⟨rfl, rfl⟩)
      go_round
      case rel => simp
      case measure => simp [intOf]
    · go_wp2_with (go_at_call 7; refine (err3 _).mono ?_; rintro e w' ⟨rfl, rfl⟩)
      go_round
      case rel => simp
      case measure => simp [intOf]
    · go_wp2_with (go_at_call 7; refine (err4 _).mono ?_; rintro e w' ⟨rfl, rfl⟩)
      go_round
      case rel => simp
      case measure => simp [intOf]
    · go_wp2_with (go_at_call 7; refine (err5 _).mono ?_; rintro e w' ⟨rfl, rfl⟩)
      go_round
      case rel => simp
      case measure => simp [intOf]
    · go_wp2_with (go_at_call 7; refine (err6 _).mono ?_; rintro e w' ⟨rfl, rfl⟩)
      go_round
      case rel => simp
      case measure => simp [intOf]
    · go_wp2_with (go_at_call 7; refine (err7 _).mono ?_; rintro e w' ⟨rfl, rfl⟩)
      go_round
      case rel => simp
      case measure => simp [intOf]
    · go_wp2
      go_ret
      exact ⟨rfl, (Below.refl _ _).alloc (Nat.le_refl _) _⟩


theorem reads : Try.f3.params.toList.all (fun t => Try.prog.readableRec t && decide (t < Try.prog.types.size)) = true := by kernel_rfl

theorem contract (H : Type) (enc : TypeId × Value → H) (W : World) (base : Nat) (args : Array Value) (ds gs : List (DataW H)) (before : List MemPlace)
    (hval : ∀ (j : Nat) t v, Try.f3.params[j]? = some t → args[j]? = some v → Value.okWide Try.prog W .any base t v)
    (hW : DataW.Whole enc Try.prog Try.f3.params.toList Rows.namesSpec.vars false W args.toList ds gs before) :
    Calls Try.prog 3 args W fun e W' => ∃ v, e = .returned v ∧ Rows.namesSpec.post enc Try.prog Try.f3 false true false false W args v W' := by
  have hW' := hW
  obtain ⟨p, q, hA0, hV, rfl, hfz, hnd⟩ := hW
  have hA : DataW.TrodAll enc Try.prog W 0 (fun _ => true) true Try.f3.params.toList args.toList ds p := hA0
  have hlt := hA.lt
  rw [Try.params3] at hA hval
  obtain ⟨hargs, rfl, rfl⟩ := trodAll_nil hA
  obtain rfl : args = #[] := by cases args; simp_all
  obtain ⟨rfl, rfl⟩ := trodVars_none hV
  clear hA0
  exact law_post 4 laid reads rfl Try.underlying4 rfl hW' ⟨rfl, rfl, rfl⟩ (walk W)

set_option maxRecDepth 100000 in
theorem lifted (os : Os) (started : os.Started) (H : Type) (enc : TypeId × Value → H) :
    ReturnsInHanded {} Try.checked os 3 .any (Rows.namesSpec.pre6 enc Try.prog Try.f3 Rows.namesRow.domain false) (Rows.namesSpec.post enc Try.prog Try.f3 false true false false) := by
  refine returnsInHanded_of_change (C := Try.checked) own started (by kernel_rfl) Try.func3
    (ChangeSpec.witness6 (enc := enc) (C := Try.checked) false ⟨#[], #[], []⟩ 8 (by kernel_rfl) (by kernel_rfl) (by kernel_rfl) (by kernel_rfl)) ?_
  intro W base args ds gs before hval hW _ _
  exact contract H enc W base args ds gs before hval hW

theorem proved : Rows.NamesSaid :=
  OpenClaim.holds_of_wide 3 Try.f3 rfl rfl rfl rfl rfl rfl rfl ⟨rfl, rfl, rfl, rfl, rfl⟩ rfl rfl rfl rfl rfl (by kernel_rfl) Try.func3 (by kernel_rfl)
    (of_decide_eq_true (by kernel_rfl)) (by unfold Func.isWrapper; first | (rw [if_pos (by decide +kernel)]; kernel_rfl) | (rw [if_neg (by decide +kernel)]; exact ⟨rfl, rfl⟩))
    (fun os started H enc _ => lifted os started H enc)
end Go.Proofs.Ytcdpkdhapdajgaa.namesP
