/- Package lpm: Set, where it refuses. No statement is proved here. -/
import Derived.Test.YtlojehakifagbaaLpmRaw
namespace Go.Proofs.Ytlojehakifagbaa.Lpm
open Go.ChangeShapes Go.WideShapes Go.ChangeAt Go.RowKit Go.Sort Go.Proofs.Ytlojehakifagbaa.Kit Go.Proofs.Ytlojehakifagbaa.App Go.Proofs.Ytlojehakifagbaa.Cells Go.Proofs.Ytlojehakifagbaa.Cidr Go.Proofs.Ytlojehakifagbaa.CidrMath Go.Proofs.Ytlojehakifagbaa.RouteMath Go.Proofs.Ytlojehakifagbaa.Route
set_option linter.unusedVariables false
set_option maxRecDepth 20000

theorem set_bad (g : Nat) (r : Rt) (w : World) (c : Int) (hc : c = code (key r)) (h0 : c ≠ 0) :
    Calls Try.prog 7 #[.pointer (some ⟨g, 0, none⟩), .agg #[.int .i64 r.adr, .int .i64 r.len, .int .i64 r.hop]] w fun e w' => e = .returned (er c) ∧ Below w.heap.size w w' := by
  have CK := Lib.hid (fun W => check_any (key r) W c hc)
  unfold Cidr.val at CK
  rw [er_ne h0] at CK ⊢
  obtain ⟨ra, rb, rh⟩ := r
  simp only [key] at CK ⊢
  clear hc h0
  go_enter Try.func7, Try.ntmps7
  go_wp2_with fail
  refine (CK.out _).mono ?_; rintro _ w1 ⟨rfl, hg1⟩
  have hB1 : Below w.heap.size w w1 := lgr (balloc (brefl w) _) (by simp) hg1
  clear hg1
  go_wp2_with fail
  go_ret
  exact ⟨rfl, hB1⟩
theorem set_hop (g : Nat) (r : Rt) (w : World) (hcode : code (key r) = 0) (hh : ¬ (0 ≤ r.hop ∧ r.hop ≤ 9)) :
    Calls Try.prog 7 #[.pointer (some ⟨g, 0, none⟩), .agg #[.int .i64 r.adr, .int .i64 r.len, .int .i64 r.hop]] w fun e w' => e = .returned (er 1) ∧ Below w.heap.size w w' := by
  have CK := Lib.hid (fun W => check_any (key r) W 0 hcode.symm)
  unfold Cidr.val at CK
  rw [er_1]
  simp only [er_0] at CK
  have B0 := BoxR.new w r 36
  obtain ⟨ra, rb, rh⟩ := r
  simp only [key] at CK B0 hh ⊢
  clear hcode
  by_cases h1 : rh < 0
  · have t1 : decide (rh < 0) = true := decide_eq_true h1
    clear hh
    go_enter Try.func7, Try.ntmps7
    go_wp2_with fail
    refine (CK.out _).mono ?_; rintro _ w1 ⟨rfl, hg1⟩
    have hB1 : Below w.heap.size w w1 := lgr (balloc (brefl w) _) (by simp) hg1
    obtain ⟨_, c10, c11, c12⟩ := B0.below hg1.below B0.1
    simp only at c10 c11 c12
    clear hg1 B0
    go_wp2_with fail
    go_ret
    exact ⟨rfl, hB1⟩
  · have t1 : decide (rh < 0) = false := decide_eq_false h1
    have t2 : decide (rh > 9) = true := decide_eq_true (by omega)
    clear hh
    go_enter Try.func7, Try.ntmps7
    go_wp2_with fail
    refine (CK.out _).mono ?_; rintro _ w1 ⟨rfl, hg1⟩
    have hB1 : Below w.heap.size w w1 := lgr (balloc (brefl w) _) (by simp) hg1
    obtain ⟨_, c10, c11, c12⟩ := B0.below hg1.below B0.1
    simp only at c10 c11 c12
    clear hg1 B0
    go_wp2_with fail
    go_ret
    exact ⟨rfl, hB1⟩
end Go.Proofs.Ytlojehakifagbaa.Lpm
