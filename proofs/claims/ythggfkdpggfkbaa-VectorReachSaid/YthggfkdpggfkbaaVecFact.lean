/- The laws' helper vectorFact. No statement is proved here. -/
import Derived.Test.YthggfkdpggfkbaaVecRun
import Derived.Test.YthggfkdpggfkbaaRowsSame
namespace Go.Proofs.Ythggfkdpggfkbaa.Vector
open Go.ChangeShapes Go.WideShapes Go.ChangeAt Go.RowKit Go.Proofs.Ythggfkdpggfkbaa.Kit Go.Proofs.Ythggfkdpggfkbaa.App Go.Proofs.Ythggfkdpggfkbaa.Cells Go.Proofs.Ythggfkdpggfkbaa.Err
set_option linter.unusedVariables false
set_option maxRecDepth 20000
set_option maxHeartbeats 2000000

def two : List Lk := [⟨0, 1, 2⟩, ⟨2, 1, 3⟩]
def known : List (List Int) := [[0, 2, 1000], [2, 0, 3], [1000, 3, 0]]
theorem two_out : known = out 3 two 1 0 := by decide +kernel
theorem two_code : code2 3 two 1 = 0 := by decide +kernel
theorem two_good : code 3 two = 0 := by decide +kernel
theorem two_settled : Settled 3 two 2 := by
  refine ⟨stab_rows.1 (by decide +kernel), fun m hm hs => ?_⟩
  have h := stab_rows.2 hs
  have h2 : m = 0 ∨ m = 1 := by omega
  rcases h2 with rfl | rfl
  · exact absurd h (by decide +kernel)
  · exact absurd h (by decide +kernel)
theorem two_lit (w : World) : CI layL (w.alloc (.cells #[.int .i64 0, .int .i64 1, .int .i64 2, .int .i64 2, .int .i64 1, .int .i64 3] 36)) (some ⟨w.heap.size, 0, none⟩) 2 two := lit_links w two 36 (by decide)
theorem known_lit (w : World) : RowsI ((((w.alloc (.cells #[.int .i64 0, .int .i64 2, .int .i64 1000] 3)).alloc (.cells #[.int .i64 2, .int .i64 0, .int .i64 3] 3)).alloc (.cells #[.int .i64 1000, .int .i64 3, .int .i64 0] 3)).alloc (.cells #[.slice (some ⟨w.heap.size, 0, none⟩) 3 3, .slice (some ⟨w.heap.size + 1, 0, none⟩) 3 3, .slice (some ⟨w.heap.size + 2, 0, none⟩) 3 3] 32)) (some ⟨w.heap.size + 3, 0, none⟩) 3 known := by
  have h1 := lit_ints w [0, 2, 1000] (by decide) (by decide)
  have h2 : Ints ((w.alloc (.cells #[.int .i64 0, .int .i64 2, .int .i64 1000] 3)).alloc (.cells #[.int .i64 2, .int .i64 0, .int .i64 3] 3)) (some ⟨w.heap.size + 1, 0, none⟩) 3 [2, 0, 3] := by
    have := lit_ints (w.alloc (.cells #[.int .i64 0, .int .i64 2, .int .i64 1000] 3)) [2, 0, 3] (by decide) (by decide)
    simpa using this
  have h3 : Ints (((w.alloc (.cells #[.int .i64 0, .int .i64 2, .int .i64 1000] 3)).alloc (.cells #[.int .i64 2, .int .i64 0, .int .i64 3] 3)).alloc (.cells #[.int .i64 1000, .int .i64 3, .int .i64 0] 3)) (some ⟨w.heap.size + 2, 0, none⟩) 3 [1000, 3, 0] := by
    have := lit_ints ((w.alloc (.cells #[.int .i64 0, .int .i64 2, .int .i64 1000] 3)).alloc (.cells #[.int .i64 2, .int .i64 0, .int .i64 3] 3)) [1000, 3, 0] (by decide) (by decide)
    simpa using this
  refine ⟨by simp [known], by simp [maxLen], fun _ => ⟨w.heap.size + 3, 0, rfl, by simp, fun j hj => ?_⟩⟩
  rcases j with _|_|_|j
  · exact ⟨_, _, by go_simp; rfl, ((h1.below (balloc (brefl _) _)).below (balloc (brefl _) _)).below (balloc (brefl _) _)⟩
  · exact ⟨_, _, by go_simp; rfl, (h2.below (balloc (brefl _) _)).below (balloc (brefl _) _)⟩
  · exact ⟨_, _, by go_simp; rfl, h3.below (balloc (brefl _) _)⟩
  · have : j + 1 + 1 + 1 < 3 := hj
    omega
theorem fact_any (w : World) : Calls Try.prog 6 #[] w fun e w' => e = .returned (.bool true) ∧ Below w.heap.size w w' := by
  have RO := Lib.hid (fun W : World => rounds_any 3 1 (some ⟨W.heap.size, 0, none⟩) 2 2 two (W.alloc (.cells #[.int .i64 0, .int .i64 1, .int .i64 2, .int .i64 2, .int .i64 1, .int .i64 3] 36)) rfl (two_lit W) 0 two_code known two_out 3 rfl)
  have SE := Lib.hid (fun W : World => settle_any 3 (some ⟨W.heap.size, 0, none⟩) 2 2 two (W.alloc (.cells #[.int .i64 0, .int .i64 1, .int .i64 2, .int .i64 2, .int .i64 1, .int .i64 3] 36)) rfl (two_lit W) 0 two_good 2 (fun _ k hk => by
    obtain rfl : k = 3 := by omega
    exact two_settled) (fun h => absurd rfl h))
  rw [er_0] at RO SE
  go_enter Try.func6, Try.ntmps6
  go_wp2_with fail
  refine (RO.out w).mono ?_; rintro e w1 ⟨q, cp, rfl, hr, hb⟩
  have HB1 := Lib.hid (bcall (balloc (brefl w) _) hb)
  have HR1 := Lib.hid hr
  clear hr hb RO
  go_wp2_with fail
  refine (SE.out w1).mono ?_; rintro e w2 ⟨rfl, hb⟩
  have HB2 := Lib.hid (bcall (balloc HB1.out _) hb)
  have HR2 := Lib.hid ((HR1.out.below (balloc (brefl _) _)).below hb)
  clear hb SE HR1 HB1
  have SM := Lib.hid (rows_any q (some ⟨w2.heap.size + 3, 0, none⟩) cp 3 3 3 known known ((((w2.alloc (.cells #[.int .i64 0, .int .i64 2, .int .i64 1000] 3)).alloc (.cells #[.int .i64 2, .int .i64 0, .int .i64 3] 3)).alloc (.cells #[.int .i64 1000, .int .i64 3, .int .i64 0] 3)).alloc (.cells #[.slice (some ⟨w2.heap.size, 0, none⟩) 3 3, .slice (some ⟨w2.heap.size + 1, 0, none⟩) 3 3, .slice (some ⟨w2.heap.size + 2, 0, none⟩) 3 3] 32)) rfl rfl
    ((((HR2.out.below (balloc (brefl _) _)).below (balloc (brefl _) _)).below (balloc (brefl _) _)).below (balloc (brefl _) _)) (known_lit w2) true (by decide))
  go_wp2_with fail
  refine SM.out.mono ?_; rintro e w3 ⟨rfl, hb3⟩
  have HB3 := Lib.hid (bcall (balloc (balloc (balloc (balloc HB2.out _) _) _) _) hb3)
  clear SM hb3
  go_wp2_with fail
  go_ret
  exact ⟨by first | rfl | simp, HB3.out⟩
end Go.Proofs.Ythggfkdpggfkbaa.Vector
