/- The laws' helper rpfFact. No statement is proved here. -/
import Derived.Test.YtedhippamfioeaaRpfKids
import Derived.Test.YtedhippamfioeaaSame
namespace Go.Proofs.Ytedhippamfioeaa.Rpf
open Go.ChangeShapes Go.WideShapes Go.ChangeAt Go.RowKit Go.Proofs.Ytedhippamfioeaa.Kit Go.Proofs.Ytedhippamfioeaa.App Go.Proofs.Ytedhippamfioeaa.Cells Go.Proofs.Ytedhippamfioeaa.Err Go.Proofs.Ytedhippamfioeaa.Vector Go.Proofs.Ytedhippamfioeaa.Spf
set_option linter.unusedVariables false
set_option maxRecDepth 20000
set_option maxHeartbeats 2000000

def tri : List Lk := [⟨0, 1, 1⟩, ⟨1, 2, 1⟩, ⟨0, 2, 1⟩]
theorem tri_code : code 3 tri = 0 := by decide +kernel
theorem tri_good : Vector.Good 3 tri := by
  obtain ⟨m, h1, h2⟩ := good_of tri_code
  obtain rfl : m = 3 := by omega
  exact h2
theorem hop_tri {s t v : Nat} (hst : s ≠ t) (hd : ds tri s t ≠ 1000) (h1 : co tri s v ≠ 1000) (h2 : co tri s v + ds tri v t = ds tri s t) (h3 : ∀ u, u < v → ¬ (co tri s u ≠ 1000 ∧ co tri s u + ds tri u t = ds tri s t)) : hop tri s t = v :=
  hop_eq tri_good (.inr ⟨fun e => by rcases e with e | e; exact hst e; exact hd e, v, rfl, ⟨h1, h2⟩, h3⟩)
theorem h0 : hop tri 0 0 = -1 := hop_none tri_good (.inl rfl)
theorem h1 : hop tri 1 0 = ((0 : Nat) : Int) := hop_tri (by decide) (by decide +kernel) (by decide +kernel) (by decide +kernel) (by decide +kernel)
theorem h2 : hop tri 2 0 = ((0 : Nat) : Int) := hop_tri (by decide) (by decide +kernel) (by decide +kernel) (by decide +kernel) (by decide +kernel)
theorem n00 : ¬ gives tri 0 0 0 := fun h => h.2.1 (by decide +kernel)
theorem n11 : ¬ gives tri 0 1 1 := fun h => h.2.1 (by decide +kernel)
theorem n22 : ¬ gives tri 0 2 2 := fun h => h.2.1 (by decide +kernel)
theorem n10 : ¬ gives tri 0 1 0 := fun h => h.2.2 h1
theorem n20 : ¬ gives tri 0 2 0 := fun h => h.2.2 h2
theorem y01 : gives tri 0 0 1 := ⟨by decide +kernel, by decide +kernel, by rw [h0]; decide⟩
theorem y02 : gives tri 0 0 2 := ⟨by decide +kernel, by decide +kernel, by rw [h0]; decide⟩
theorem y12 : gives tri 0 1 2 := ⟨by decide +kernel, by decide +kernel, by rw [h1]; decide⟩
theorem y21 : gives tri 0 2 1 := ⟨by decide +kernel, by decide +kernel, by rw [h2]; decide⟩
theorem c0 : copies 3 tri 0 0 = 0 := by
  unfold copies sm sm sm sm
  rw [if_neg n00, if_neg n10, if_neg n20]
theorem c1 : copies 3 tri 0 1 = 2 := by
  unfold copies sm sm sm sm
  rw [if_pos y01, if_neg n11, if_pos y21]
theorem c2 : copies 3 tri 0 2 = 2 := by
  unfold copies sm sm sm sm
  rw [if_pos y02, if_pos y12, if_neg n22]
theorem tri_sent : sent 3 tri 0 = 4 := by
  unfold sent sm sm sm sm
  rw [c0, c1, c2]
theorem tri_cps : cps 3 (copies 3 tri 0) = [0, 2, 2] := by
  show [((copies 3 tri 0 0 : Nat) : Int), ((copies 3 tri 0 1 : Nat) : Int), ((copies 3 tri 0 2 : Nat) : Int)] = _
  rw [c0, c1, c2]; rfl
theorem tri_lit (w : World) : CI layL (w.alloc (.cells #[.int .i64 0, .int .i64 1, .int .i64 1, .int .i64 1, .int .i64 2, .int .i64 1, .int .i64 0, .int .i64 2, .int .i64 1] 38)) (some ⟨w.heap.size, 0, none⟩) 3 tri := lit_links w tri 38 (by decide)
theorem fact_any (w : World) : Calls Try.prog 7 #[] w fun e w' => e = .returned (.bool true) ∧ Below w.heap.size w w' := by
  have HB0 := Lib.hid (balloc (brefl w) (.cells #[.int .i64 0, .int .i64 1, .int .i64 1, .int .i64 1, .int .i64 2, .int .i64 1, .int .i64 0, .int .i64 2, .int .i64 1] 38))
  have HT := Lib.hid (tri_lit w)
  have FR := Lib.hid (fun W (hW : CI layL W (some ⟨w.heap.size, 0, none⟩) 3 tri) => flood_good (n := 3) (s := 0) (ls := tri) (some ⟨w.heap.size, 0, none⟩) 3 3 W rfl hW tri_good (by decide))
  rw [tri_sent, tri_cps] at FR
  go_enter Try.func7, Try.ntmps7
  go_wp2_with fail
  refine (FR.out _ HT.out).mono ?_; rintro e w1 ⟨u, rfl, ho, hb⟩
  have HB1 := Lib.hid (bcall HB0.out hb)
  obtain ⟨pu, cu, rfl, iu⟩ := ho.form
  have IU := Lib.hid iu
  clear FR HB0 HT ho iu hb
  have S1 := Lib.hid (fun W (hW : Ints W pu cu [0, 2, 2]) q (hq : Ints W q 3 [0, 2, 2]) => ints_any pu q cu 3 3 3 [0, 2, 2] [0, 2, 2] W rfl rfl hW hq true (by decide))
  have A1 := Lib.hid (fun W => lit_ints W [0, 2, 2] (by decide) (by decide))
  go_wp2_with fail
  refine (S1.out _ (IU.out.below (balloc (brefl w1) _)) _ (A1.out w1)).mono ?_; rintro e w3 ⟨rfl, hb⟩
  have HB3 := Lib.hid (bcall (balloc HB1.out _) hb)
  clear hb IU HB1 S1
  go_wp2_with fail
  go_ret
  exact ⟨by first | rfl | simp, HB3.out⟩
end Go.Proofs.Ytedhippamfioeaa.Rpf
