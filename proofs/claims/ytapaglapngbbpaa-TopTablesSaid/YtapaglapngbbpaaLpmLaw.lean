/- Package lpm: what the laws call besides: in, lpmFact, routed. No statement is proved here. -/
import Derived.Test.YtapaglapngbbpaaLpmOps
import Derived.Test.YtapaglapngbbpaaRows0
namespace Go.Proofs.Ytapaglapngbbpaa.Lpm
open Go.ChangeShapes Go.WideShapes Go.ChangeAt Go.RowKit Go.Sort Go.Proofs.Ytapaglapngbbpaa.Kit Go.Proofs.Ytapaglapngbbpaa.App Go.Proofs.Ytapaglapngbbpaa.Cells Go.Proofs.Ytapaglapngbbpaa.Cidr Go.Proofs.Ytapaglapngbbpaa.CidrMath Go.Proofs.Ytapaglapngbbpaa.RouteMath Go.Proofs.Ytapaglapngbbpaa.Route
set_option linter.unusedVariables false
set_option maxRecDepth 20000

theorem in_any (n a b : Int) (w : World) (R : Bool) (hR : R = (decide (a ≤ n) && decide (n ≤ b))) : Calls Try.prog 9 #[.int .i64 n, .int .i64 a, .int .i64 b] w fun e w' => e = .returned (.bool R) ∧ w' = w := by
  subst hR
  by_cases h1 : a ≤ n
  · have t1 : decide (a ≤ n) = true := decide_eq_true h1
    go_enter Try.func9, Try.ntmps9
    go_wp2_with fail
    go_ret
    exact ⟨by rw [t1]; simp, rfl⟩
  · have t1 : decide (a ≤ n) = false := decide_eq_false h1
    go_enter Try.func9, Try.ntmps9
    go_wp2_with fail
    go_ret
    exact ⟨rfl, rfl⟩
theorem bgrown {B : Nat} {a w w' : World} {g : Nat} (h : Below B a w) (hB : B ≤ a.heap.size) (hg : w.grownBy w' (some g)) (hBg : B ≤ g) : Below B a w' :=
  h.grown hg (Nat.le_trans hB h.size) (fun k hk => by have := Option.some.inj hk; omega)
/-- A step of the laws: a row of three numbers sets, one of two drops. -/
def stepL (l : List Rt) (row : List Int) : List Rt := match row with
  | [a, b, h] => setN l ⟨a, b, h⟩
  | [a, b] => dropN l ⟨a, b⟩
  | _ => l
theorem GT.step {l : List Rt} (h : GT l) (row : List Int) : GT (stepL l row) := by
  unfold stepL
  split
  · exact h.set _
  · exact h.drop _
  · exact h
theorem step_none (l : List Rt) (row : List Int) (h3 : row.length ≠ 3) (h2 : row.length ≠ 2) : stepL l row = l := by
  unfold stepL
  split
  · simp at h3
  · simp at h2
  · rfl
def r1 : Rt := ⟨0, 0, 1⟩
def r2 : Rt := ⟨256, 8, 2⟩
theorem fact_math : setC [] r1 = 0 ∧ setN [] r1 = [r1] ∧ setC [r1] r2 = 0 ∧ setN [r1] r2 = [r1, r2] ∧ fnd [r1, r2] 300 = some r2 ∧ fndE [r1, r2] 300 = 0 ∧ fnd [r1, r2] 5 = some r1 ∧ fndE [r1, r2] 5 = 0 := by
  have c1 : code (key r1) = 0 := by decide
  have c2 : code (key r2) = 0 := by decide
  have p1 : pos [] (key r1) = 0 := rfl
  have p2 : pos [r1] (key r2) = 1 := by decide
  have n1 : ¬ Is [] (key r1) := fun ⟨r, h, _⟩ => by simp at h
  have n2 : ¬ Is [r1] (key r2) := fun ⟨r, h, _⟩ => by rw [p2] at h; simp at h
  have s1 : setC [] r1 = 0 := by unfold setC; rw [if_neg (by simpa using c1), if_pos (by decide), if_neg n1]; rfl
  have s2 : setC [r1] r2 = 0 := by unfold setC; rw [if_neg (by simpa using c2), if_pos (by decide), if_neg n2]; rfl
  have t1 : setN [] r1 = [r1] := by unfold setN; rw [if_pos s1, decide_eq_false n1]; rfl
  have t2 : setN [r1] r2 = [r1, r2] := by unfold setN setR; rw [if_pos s2, decide_eq_false n2, p2]; rfl
  have f1 : findR [r1, r2] 300 = some r2 := by rfl
  have f2 : findR [r1, r2] 5 = some r1 := by rfl
  exact ⟨s1, t1, s2, t2, f1, by unfold fndE; rw [if_pos (by decide)]; show foundE (findR [r1, r2] 300) = 0; rw [f1]; rfl, f2, by unfold fndE; rw [if_pos (by decide)]; show foundE (findR [r1, r2] 5) = 0; rw [f2]; rfl⟩
theorem fact_any (w : World) : Calls Try.prog 6 #[] w fun e w' => e = .returned (.bool true) ∧ Below w.heap.size w w' := by
  have hm := fact_math
  obtain ⟨s1, t1, s2, t2, f1, e1, f2, e2⟩ := hm
  have S1 := Lib.hid (fun g W hT => set_any g [] r1 W hT GT.nil)
  have G1 := GT.nil.set r1
  rw [t1] at G1
  have S2 := Lib.hid (fun g W hT => set_any g [r1] r2 W hT G1)
  have G2 := G1.set r2
  rw [t2] at G2
  have F1 := Lib.hid (fun g W hT => find_all g 300 [r1, r2] W hT G2)
  have F2 := Lib.hid (fun g W hT => find_all g 5 [r1, r2] W hT G2)
  rw [s1, t1] at S1
  rw [s2, t2] at S2
  rw [f1, e1] at F1
  rw [f2, e2] at F2
  simp only [er_0, foundH, foundL] at S1 S2 F1 F2
  have N := Lib.hid (new_any w)
  have q1 : r1 = ⟨0, 0, 1⟩ := rfl
  have q2 : r2 = ⟨256, 8, 2⟩ := rfl
  generalize [r1, r2] = l2 at S2 F1 F2
  generalize [r1] = l1 at S1 S2
  rw [q1] at S1 F2
  rw [q2] at S2 F1
  simp only at S1 S2 F1 F2
  clear q1 q2 G1 G2 s1 s2 t1 t2 f1 f2 e1 e2
  go_enter Try.func6, Try.ntmps6
  go_wp2_with fail
  refine N.out.mono ?_; rintro e w1 ⟨rfl, hT1, hb1⟩
  have C1 := Lib.hid (S1.out _ _ hT1)
  clear hT1
  clear N
  go_wp2_with fail
  refine C1.out.mono ?_; rintro e w2 ⟨rfl, hT2, hg2⟩
  have hB2 := bgrown hb1 (Nat.le_refl _) hg2 (Nat.le_refl _)
  have C2 := Lib.hid (S2.out _ _ hT2)
  clear hT2 hg2 C1
  go_wp2_with fail
  refine C2.out.mono ?_; rintro e w3 ⟨rfl, hT3, hg3⟩
  have hB3 := bgrown hB2 (Nat.le_refl _) hg3 (Nat.le_refl _)
  have C3 := Lib.hid (F1.out _ _ hT3)
  have HT3 := Lib.hid hT3
  clear hT3 hg3 C2
  go_wp2_with fail
  refine C3.out.mono ?_; rintro e w4 ⟨rfl, hb4⟩
  have hB4 := bcall hB3 hb4
  have C4 := Lib.hid (F2.out _ _ (HT3.out.below hb4 HT3.out.lt))
  clear HT3 hb4 C3
  go_wp2_with fail
  refine C4.out.mono ?_; rintro e w5 ⟨rfl, hb5⟩
  have hB5 := bcall hB4 hb5
  go_wp2_with fail
  go_ret
  exact ⟨rfl, hB5⟩
end Go.Proofs.Ytapaglapngbbpaa.Lpm
