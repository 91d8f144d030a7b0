/- The laws' helpers: roundsFact. No statement is proved here. -/
import Derived.Test.YtmjkjkiogkmmpaaRounds4
import Derived.Test.YtmjkjkiogkmmpaaSame
namespace Go.Proofs.Ytmjkjkiogkmmpaa.Rounds
open Go.ChangeShapes Go.WideShapes Go.ChangeAt Go.RowKit Go.Proofs.Ytmjkjkiogkmmpaa.Kit Go.Proofs.Ytmjkjkiogkmmpaa.App Go.Proofs.Ytmjkjkiogkmmpaa.Err Go.Proofs.Ytmjkjkiogkmmpaa.Cells Go.Proofs.Ytmjkjkiogkmmpaa.Drr
set_option linter.unusedVariables false
set_option maxRecDepth 20000
set_option maxHeartbeats 2000000

def factP : List Pk := [⟨1, 2, 2⟩, ⟨1, 2, 4⟩, ⟨0, 5, 5⟩]
theorem fact_srt : Srt [[5], [2, 2]] factP := by
  refine ⟨?_, ?_⟩
  · show List.Perm (([⟨1, 2, 2⟩, ⟨1, 2, 4⟩] : List Pk) ++ ([⟨0, 5, 5⟩] : List Pk)) (([⟨0, 5, 5⟩] : List Pk) ++ ([⟨1, 2, 2⟩, ⟨1, 2, 4⟩] : List Pk))
    exact List.perm_append_comm
  · simp [factP, Bf]
theorem fact_rows (w : World) : RowsI (((w.alloc (.cells #[.int .i64 5] 3)).alloc (.cells #[.int .i64 2, .int .i64 2] 3)).alloc (.cells #[.slice (some ⟨w.heap.size, 0, none⟩) 1 1, .slice (some ⟨w.heap.size + 1, 0, none⟩) 2 2] 24)) (some ⟨w.heap.size + 2, 0, none⟩) 2 [[5], [2, 2]] := by
  have h1 := lit_ints w [5] (by decide) (by decide)
  have h2 : Ints ((w.alloc (.cells #[.int .i64 5] 3)).alloc (.cells #[.int .i64 2, .int .i64 2] 3)) (some ⟨w.heap.size + 1, 0, none⟩) 2 [2, 2] := by
    have := lit_ints (w.alloc (.cells #[.int .i64 5] 3)) [2, 2] (by decide) (by decide)
    simpa using this
  refine ⟨by simp, by simp [maxLen], fun _ => ⟨w.heap.size + 2, 0, rfl, by simp, fun j hj => ?_⟩⟩
  rcases j with _|_|j
  · exact ⟨_, _, by go_simp, (h1.below (balloc (brefl _) _)).below (balloc (brefl _) _)⟩
  · exact ⟨_, _, by go_simp, h2.below (balloc (brefl _) _)⟩
  · have : j + 1 + 1 < 2 := hj
    omega
theorem fact_any (w : World) : Calls Try.prog 5 #[] w fun e w' => e = .returned (.bool true) ∧ Below w.heap.size w w' := by
  have RU := Lib.hid (fun W => run_any _ 2 2 [[5], [2, 2]] _ rfl (fact_rows W) 0 (by decide) factP (fun _ => fact_srt) (fun h => absurd rfl h) 3 rfl)
  have RB := Lib.hid (fun W => bits_any _ 2 2 [[5], [2, 2]] _ rfl (fact_rows W) 0 (by decide) factP (fun _ => fact_srt) (fun h => absurd rfl h) 3 rfl)
  rw [er_0] at RU RB
  have e1 : nums factP = [1, 1, 0] := by decide
  have e2 : ends (sizes factP) = [2, 4, 9] := by decide
  have e3 : bits [[5], [2, 2]] 5 factP = [4, 8, 9] := by decide
  rw [e1, e2] at RU
  rw [e3] at RB
  go_enter Try.func5, Try.ntmps5
  go_wp2_with fail
  refine (RU.out w).mono ?_; rintro e w1 ⟨⟨r, cr, r2, cr2, rfl, hI, hI2⟩, hb⟩
  have HB1 := Lib.hid (bcall (balloc (balloc (balloc (brefl w) _) _) _) hb)
  have HI := Lib.hid hI
  have HI2 := Lib.hid hI2
  clear RU hb hI hI2
  go_wp2_with fail
  refine (RB.out w1).mono ?_; rintro e w2 ⟨⟨r3, cr3, rfl, hI3⟩, hb2⟩
  have HB2 := Lib.hid (bcall (balloc (balloc (balloc HB1.out _) _) _) hb2)
  have hb3 := bcall (balloc (balloc (balloc (brefl w1) _) _) _) hb2
  have HJ := Lib.hid (HI.out.below hb3)
  have HJ2 := Lib.hid (HI2.out.below hb3)
  have HI3 := Lib.hid hI3
  clear RB hb2 hb3 hI3 HI HI2 HB1
  have SM := Lib.hid (ints_any r (some ⟨w2.heap.size, 0, none⟩) cr 3 3 3 [1, 1, 0] [1, 1, 0] (w2.alloc (.cells #[.int .i64 1, .int .i64 1, .int .i64 0] 3)) rfl rfl (HJ.out.below (balloc (brefl _) _)) (lit_ints w2 [1, 1, 0] (by decide) (by decide)) true (by decide))
  have SM2 := Lib.hid (fun W (hW : Below w2.heap.size w2 W) => ints_any r2 (some ⟨W.heap.size, 0, none⟩) cr2 3 3 3 [2, 4, 9] [2, 4, 9] (W.alloc (.cells #[.int .i64 2, .int .i64 4, .int .i64 9] 3)) rfl rfl ((HJ2.out.below hW).below (balloc (brefl _) _)) (lit_ints W [2, 4, 9] (by decide) (by decide)) true (by decide))
  have SM3 := Lib.hid (fun W (hW : Below w2.heap.size w2 W) => ints_any r3 (some ⟨W.heap.size, 0, none⟩) cr3 3 3 3 [4, 8, 9] [4, 8, 9] (W.alloc (.cells #[.int .i64 4, .int .i64 8, .int .i64 9] 3)) rfl rfl ((HI3.out.below hW).below (balloc (brefl _) _)) (lit_ints W [4, 8, 9] (by decide) (by decide)) true (by decide))
  go_wp2_with fail
  refine SM.out.mono ?_; rintro e w3 ⟨rfl, hb3⟩
  have HB3 := Lib.hid (bcall (balloc (brefl w2) _) hb3)
  clear SM hb3
  go_wp2_with fail
  refine (SM2.out w3 HB3.out).mono ?_; rintro e w4 ⟨rfl, hb4⟩
  have HB4 := Lib.hid (bcall (balloc HB3.out _) hb4)
  clear SM2 hb4
  go_wp2_with fail
  refine (SM3.out w4 HB4.out).mono ?_; rintro e w5 ⟨rfl, hb5⟩
  have HB5 := Lib.hid (bcall HB2.out (bcall (balloc HB4.out _) hb5))
  go_wp2_with fail
  go_ret
  exact ⟨by first | rfl | simp, HB5.out⟩
end Go.Proofs.Ytmjkjkiogkmmpaa.Rounds
