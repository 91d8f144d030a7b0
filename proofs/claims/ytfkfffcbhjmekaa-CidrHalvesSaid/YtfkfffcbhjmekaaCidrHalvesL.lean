/- Two halves of a prefix are made one, and no two of the fewest are halves of one: the law returns true for every input. No condition. -/
import Derived.Test.YtfkfffcbhjmekaaCidrHalves1
import Derived.Test.YtfkfffcbhjmekaaCidrHalves2
import Derived.Test.YtfkfffcbhjmekaaCidrHalves3
namespace Go.Proofs.Ytfkfffcbhjmekaa.cidrHalvesP
open Go.ChangeShapes Go.WideShapes Go.ChangeAt Go.RowKit Go.Sort
open Go.Proofs.Ytfkfffcbhjmekaa.Kit Go.Proofs.Ytfkfffcbhjmekaa.App Go.Proofs.Ytfkfffcbhjmekaa.Cells Go.Proofs.Ytfkfffcbhjmekaa.Cidr Go.Proofs.Ytfkfffcbhjmekaa.CidrMath
set_option linter.unusedVariables false
set_option maxRecDepth 20000


theorem law_any (x : Pfx) (p : Option Addr) (cap : Nat) (l : List Pfx) (w : World) (hc : CI lay w p cap l) : Law x p cap l w := by
  by_cases h : wrong l = 0
  · by_cases hx : code x = 0
    · by_cases h2 : x.len ≤ 15
      · exact law_b_good x p cap l w hc h ⟨hx, h2⟩
      · exact law_a2_good x p cap l w hc h hx h2
    · exact law_a1_good x p cap l w hc h hx
  · by_cases hx : code x = 0
    · by_cases h2 : x.len ≤ 15
      · exact law_b_bad x p cap l w hc h ⟨hx, h2⟩
      · exact law_a2_bad x p cap l w hc h hx h2
    · exact law_a1_bad x p cap l w hc h hx

theorem reads : Try.f5.params.toList.all (fun t => Try.prog.readableRec t && decide (t < Try.prog.types.size)) = true := by kernel_rfl

theorem contract (H : Type) (enc : TypeId × Value → H) (W : World) (base : Nat) (args : Array Value) (ds gs : List (DataW H)) (before : List MemPlace)
    (hval : ∀ (j : Nat) t v, Try.f5.params[j]? = some t → args[j]? = some v → Value.okWide Try.prog W .any base t v)
    (hW : DataW.Whole enc Try.prog Try.f5.params.toList Rows.cidrHalvesSpec.vars false W args.toList ds gs before) :
    Calls Try.prog 5 args W fun e W' => ∃ v, e = .returned v ∧ Rows.cidrHalvesSpec.post enc Try.prog Try.f5 false true false false W args v W' := by
  have hW' := hW
  obtain ⟨p, q, hA0, hV, rfl, hfz, hnd⟩ := hW
  have hA : DataW.TrodAll enc Try.prog W 0 (fun _ => true) true Try.f5.params.toList args.toList ds p := hA0
  have hlt := hA.lt
  rw [Try.params5] at hA hval
  obtain ⟨v0, vs0, d0, ds0, p0, q0, hargs, rfl, rfl, h0, r0⟩ := trodAll_cons hA
  obtain ⟨v1, vs1, d1, ds1, p1, q1, hvs1, rfl, rfl, h1, r1⟩ := trodAll_cons r0
  obtain ⟨hvsn, rfl, rfl⟩ := trodAll_nil r1
  simp only [hvsn, hvs1] at hargs
  obtain rfl : args = #[v0, v1] := by cases args; simp_all
  obtain ⟨rfl, rfl⟩ := trodVars_none hV
  clear hA0
  obtain ⟨x0, rfl, f0⟩ := Go.Proofs.Ytfkfffcbhjmekaa.Cidr.open_prefix (hval 0 32 v0 rfl rfl) h0
  obtain ⟨p1a, cap1, l1, rfl, i1, f1, e1⟩ := Go.Proofs.Ytfkfffcbhjmekaa.Cidr.open_prefixes (hval 1 22 v1 rfl rfl) h1 (fun x hx => hlt x (by simp [hx]))
  exact law_post 4 laid reads rfl Try.underlying4 rfl hW' ⟨rfl, rfl, rfl⟩ (law_any x0 p1a cap1 l1 W i1)

set_option maxRecDepth 100000 in
theorem lifted (os : Os) (started : os.Started) (H : Type) (enc : TypeId × Value → H) :
    ReturnsInHanded {} Try.checked os 5 .any (Rows.cidrHalvesSpec.pre6 enc Try.prog Try.f5 Rows.cidrHalvesRow.domain false) (Rows.cidrHalvesSpec.post enc Try.prog Try.f5 false true false false) := by
  refine returnsInHanded_of_change (C := Try.checked) own started (by kernel_rfl) Try.func5
    (ChangeSpec.witness6 (enc := enc) (C := Try.checked) false ⟨#[], #[.agg #[.int .i64 0, .int .i64 0], .slice none 0 0], []⟩ 8 (by kernel_rfl) (by kernel_rfl) (by kernel_rfl) (by kernel_rfl)) ?_
  intro W base args ds gs before hval hW _ _
  exact contract H enc W base args ds gs before hval hW

theorem proved : Rows.CidrHalvesSaid :=
  OpenClaim.holds_of_wide 5 Try.f5 rfl rfl rfl rfl rfl rfl rfl ⟨rfl, rfl, rfl, rfl, rfl⟩ rfl rfl rfl rfl rfl (by kernel_rfl) Try.func5 (by kernel_rfl)
    (of_decide_eq_true (by kernel_rfl)) (by unfold Func.isWrapper; first | (rw [if_pos (by decide +kernel)]; kernel_rfl) | (rw [if_neg (by decide +kernel)]; exact ⟨rfl, rfl⟩))
    (fun os started H enc _ => lifted os started H enc)
end Go.Proofs.Ytfkfffcbhjmekaa.cidrHalvesP
