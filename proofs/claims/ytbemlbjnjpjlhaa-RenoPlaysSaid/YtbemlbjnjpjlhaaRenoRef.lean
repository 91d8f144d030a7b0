/- The document's flow: what becomes of it. No statement is proved here. -/
import Derived.Test.YtbemlbjnjpjlhaaBlk
import Derived.Test.YtbemlbjnjpjlhaaCell3
import Derived.Test.YtbemlbjnjpjlhaaMost2
import Derived.Test.YtbemlbjnjpjlhaaRenoMath
import Derived.Deep.RegionLaw
import Derived.Deep.RegionHeld3
namespace Go.Proofs.Ytbemlbjnjpjlhaa.Reno
open Go.ChangeShapes Go.WideShapes Go.ChangeAt Go.RowKit Go.Proofs.Ytbemlbjnjpjlhaa.Kit Go.Proofs.Ytbemlbjnjpjlhaa.App
set_option linter.unusedVariables false
set_option maxRecDepth 20000
set_option maxHeartbeats 4000000

/-- A document's flow lies in block g. -/
def Doc (w : World) (g : Nat) (s : St) : Prop := Blk 32 w g [.int .i64 s.1, .int .i64 s.2.1, .int .i64 s.2.2]
abbrev agg (s : St) : Value := .agg #[.int .i64 s.1, .int .i64 s.2.1, .int .i64 s.2.2]
theorem two_alloc (w : World) (g : Nat) (hg : w.heap.size = g) (o : Obj) (T : TypeId) (l : List Value) : Blk T ((w.alloc o).alloc (.cells l.toArray T)) (g + 1) l := by
  have h := Blk.new (w.alloc o) T l
  rw [World.size_alloc, hg] at h
  exact h
theorem do_told (a b k : Int) (w : World) (hO : Ok (a, b, k)) : Calls Try.prog 14 #[.agg #[.int .i64 a, .int .i64 b, .int .i64 k], .int .i64 0] w fun e w' => e = .returned (agg (told (a, b, k))) ∧ Below w.heap.size w w' := by
  obtain ⟨o1, o2, o3, o4, o5, o6⟩ := hO
  simp only at o1 o2 o3 o4 o5 o6
  obtain ⟨g, hg⟩ : ∃ g, w.heap.size = g := ⟨_, rfl⟩
  by_cases h1 : a = 1000
  · subst h1
    clear o1 o2 o6
    rw [told_full]
    go_enter Try.func14, Try.ntmps14
    go_wp2_with fail
    exact bodyPost_ret (results_three rfl Try.isAgg32 Try.sizeOf32 _ _ _ rfl rfl rfl _ _ _ ((two_alloc w g hg _ _ [.int .i64 (1000), .int .i64 (b), .int .i64 (k)]).cell 0 _ rfl) ((two_alloc w g hg _ _ [.int .i64 (1000), .int .i64 (b), .int .i64 (k)]).cell 1 _ rfl) ((two_alloc w g hg _ _ [.int .i64 (1000), .int .i64 (b), .int .i64 (k)]).cell 2 _ rfl)) rfl ⟨rfl, by first | exact balloc (balloc (brefl w) _) _ | (rw [← hg]; exact balloc (balloc (brefl w) _) _)⟩
  · have t1 : (a == 1000) = false := by rw [beq_eq_false_iff_ne]; exact h1
    by_cases h2 : a < b
    · have t2 : decide (a < b) = true := decide_eq_true h2
      rw [told_fast h1 h2]
      clear h1
      go_enter Try.func14, Try.ntmps14
      go_wp2_with fail
      exact bodyPost_ret (results_three rfl Try.isAgg32 Try.sizeOf32 _ _ _ rfl rfl rfl _ _ _ ((two_alloc w g hg _ _ [.int .i64 (a + 1), .int .i64 (b), .int .i64 (k)]).cell 0 _ rfl) ((two_alloc w g hg _ _ [.int .i64 (a + 1), .int .i64 (b), .int .i64 (k)]).cell 1 _ rfl) ((two_alloc w g hg _ _ [.int .i64 (a + 1), .int .i64 (b), .int .i64 (k)]).cell 2 _ rfl)) rfl ⟨rfl, by first | exact balloc (balloc (brefl w) _) _ | (rw [← hg]; exact balloc (balloc (brefl w) _) _)⟩
    · have t2 : decide (a < b) = false := decide_eq_false h2
      by_cases h3 : k + 1 = a
      · have t3 : (k + 1 == a) = true := by rw [beq_iff_eq]; exact h3
        rw [told_turn h1 h2 h3]
        clear h1 h3
        go_enter Try.func14, Try.ntmps14
        go_wp2_with fail
        exact bodyPost_ret (results_three rfl Try.isAgg32 Try.sizeOf32 _ _ _ rfl rfl rfl _ _ _ ((two_alloc w g hg _ _ [.int .i64 (a + 1), .int .i64 (b), .int .i64 (0)]).cell 0 _ rfl) ((two_alloc w g hg _ _ [.int .i64 (a + 1), .int .i64 (b), .int .i64 (0)]).cell 1 _ rfl) ((two_alloc w g hg _ _ [.int .i64 (a + 1), .int .i64 (b), .int .i64 (0)]).cell 2 _ rfl)) rfl ⟨rfl, by first | exact balloc (balloc (brefl w) _) _ | (rw [← hg]; exact balloc (balloc (brefl w) _) _)⟩
      · have t3 : (k + 1 == a) = false := by rw [beq_eq_false_iff_ne]; exact h3
        rw [told_slow h1 h2 h3]
        clear h1 h3
        go_enter Try.func14, Try.ntmps14
        go_wp2_with fail
        exact bodyPost_ret (results_three rfl Try.isAgg32 Try.sizeOf32 _ _ _ rfl rfl rfl _ _ _ ((two_alloc w g hg _ _ [.int .i64 (a), .int .i64 (b), .int .i64 (k + 1)]).cell 0 _ rfl) ((two_alloc w g hg _ _ [.int .i64 (a), .int .i64 (b), .int .i64 (k + 1)]).cell 1 _ rfl) ((two_alloc w g hg _ _ [.int .i64 (a), .int .i64 (b), .int .i64 (k + 1)]).cell 2 _ rfl)) rfl ⟨rfl, by first | exact balloc (balloc (brefl w) _) _ | (rw [← hg]; exact balloc (balloc (brefl w) _) _)⟩
theorem do_lost (a b k : Int) (w : World) (hO : Ok (a, b, k)) : Calls Try.prog 14 #[.agg #[.int .i64 a, .int .i64 b, .int .i64 k], .int .i64 1] w fun e w' => e = .returned (agg (lost (a, b, k))) ∧ Below w.heap.size w w' := by
  obtain ⟨o1, o2, o3, o4, o5, o6⟩ := hO
  simp only at o1 o2 o3 o4 o5 o6
  obtain ⟨g, hg⟩ : ∃ g, w.heap.size = g := ⟨_, rfl⟩
  obtain ⟨d, hd⟩ : ∃ d, a.tdiv 2 = d := ⟨_, rfl⟩
  have hdb : 0 ≤ d ∧ d ≤ 500 := by rw [← hd, Int.tdiv_eq_ediv_of_nonneg (by omega)]; omega
  obtain ⟨d1, d2⟩ := hdb
  have MO := Lib.hid (fun W => most2_any 2 d W (half a) (by unfold half; rw [hd]; split <;> split <;> omega))
  unfold lost
  simp only
  generalize half a = h at MO ⊢
  go_enter Try.func14, Try.ntmps14
  go_wp2_with fail
  refine (MO.out _).mono ?_; rintro e w1 ⟨rfl, rfl⟩
  go_wp2_with fail
  exact bodyPost_ret (results_three rfl Try.isAgg32 Try.sizeOf32 _ _ _ rfl rfl rfl _ _ _ ((two_alloc w g hg _ _ [.int .i64 (h), .int .i64 (h), .int .i64 (0)]).cell 0 _ rfl) ((two_alloc w g hg _ _ [.int .i64 (h), .int .i64 (h), .int .i64 (0)]).cell 1 _ rfl) ((two_alloc w g hg _ _ [.int .i64 (h), .int .i64 (h), .int .i64 (0)]).cell 2 _ rfl)) rfl ⟨rfl, by first | exact balloc (balloc (brefl w) _) _ | (rw [← hg]; exact balloc (balloc (brefl w) _) _)⟩
theorem do_late (a b k : Int) (w : World) (hO : Ok (a, b, k)) : Calls Try.prog 14 #[.agg #[.int .i64 a, .int .i64 b, .int .i64 k], .int .i64 2] w fun e w' => e = .returned (agg (late (a, b, k))) ∧ Below w.heap.size w w' := by
  obtain ⟨o1, o2, o3, o4, o5, o6⟩ := hO
  simp only at o1 o2 o3 o4 o5 o6
  obtain ⟨g, hg⟩ : ∃ g, w.heap.size = g := ⟨_, rfl⟩
  obtain ⟨d, hd⟩ : ∃ d, a.tdiv 2 = d := ⟨_, rfl⟩
  have hdb : 0 ≤ d ∧ d ≤ 500 := by rw [← hd, Int.tdiv_eq_ediv_of_nonneg (by omega)]; omega
  obtain ⟨d1, d2⟩ := hdb
  have MO := Lib.hid (fun W => most2_any 2 d W (half a) (by unfold half; rw [hd]; split <;> split <;> omega))
  unfold late
  simp only
  generalize half a = h at MO ⊢
  go_enter Try.func14, Try.ntmps14
  go_wp2_with fail
  refine (MO.out _).mono ?_; rintro e w1 ⟨rfl, rfl⟩
  go_wp2_with fail
  exact bodyPost_ret (results_three rfl Try.isAgg32 Try.sizeOf32 _ _ _ rfl rfl rfl _ _ _ ((two_alloc w g hg _ _ [.int .i64 (1), .int .i64 (h), .int .i64 (0)]).cell 0 _ rfl) ((two_alloc w g hg _ _ [.int .i64 (1), .int .i64 (h), .int .i64 (0)]).cell 1 _ rfl) ((two_alloc w g hg _ _ [.int .i64 (1), .int .i64 (h), .int .i64 (0)]).cell 2 _ rfl)) rfl ⟨rfl, by first | exact balloc (balloc (brefl w) _) _ | (rw [← hg]; exact balloc (balloc (brefl w) _) _)⟩
end Go.Proofs.Ytbemlbjnjpjlhaa.Reno
