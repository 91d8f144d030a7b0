/- Package spf: Way, whatever it is asked. No statement is proved here. -/
import Derived.Test.YthicejpgfmhimaaDoorSpf7
namespace Go.Proofs.YthicejpgfmhimaaDoor.Spf
open Go.ChangeShapes Go.WideShapes Go.ChangeAt Go.RowKit Go.Proofs.YthicejpgfmhimaaDoor.Kit Go.Proofs.YthicejpgfmhimaaDoor.App Go.Proofs.YthicejpgfmhimaaDoor.Cells Go.Proofs.YthicejpgfmhimaaDoor.Err Go.Proofs.YthicejpgfmhimaaDoor.Vector
set_option linter.unusedVariables false
set_option maxRecDepth 20000

/-- What Way answers, whatever it is asked. -/
def Wayc (n : Int) (ls : List Lk) (s t : Int) (c : Int) (L : List Nat) : Prop := (c ≠ 0 ∧ wrong n ls [s, t] = c ∧ L = []) ∨ (wrong n ls [s, t] = 0 ∧ Ways n.toNat ls s.toNat t.toNat c L)
theorem wrong_two {n s t : Int} {ls : List Lk} (h : wrong n ls [s, t] = 0) : ∃ (N S T : Nat), n = (N : Int) ∧ s = (S : Int) ∧ t = (T : Int) ∧ Vector.Good N ls ∧ S < N ∧ T < N := by
  unfold wrong at h
  by_cases h0 : code n ls = 0
  · rw [if_pos h0] at h
    obtain ⟨N, rfl, g⟩ := good_of h0
    have := outs_two h
    exact ⟨N, s.toNat, t.toNat, rfl, by omega, by omega, g, by omega, by omega⟩
  · rw [if_neg h0] at h; exact absurd h h0
theorem wayc_ex (n s t : Int) (ls : List Lk) : ∃ c L, Wayc n ls s t c L := by
  by_cases h : wrong n ls [s, t] = 0
  · obtain ⟨N, S, T, rfl, rfl, rfl, g, hS, hT⟩ := wrong_two h
    obtain ⟨c, L, hw⟩ := ways_ex g (s := S) hT
    exact ⟨c, L, .inr ⟨h, hw⟩⟩
  · exact ⟨_, [], .inl ⟨h, rfl, rfl⟩⟩
theorem way_any (n s t : Int) (p : Option Addr) (cap m : Nat) (ls : List Lk) (w : World) (hm : m = ls.length) (hi : CI layL w p cap ls) (hs : (Lit.int .i64 s).wf = true) (ht : (Lit.int .i64 t).wf = true) (c : Int) (L : List Nat) (hw : Wayc n ls s t c L) :
    Calls Tryd.prog 11 #[.int .i64 n, .slice p m cap, .int .i64 s, .int .i64 t] w fun e w' => ∃ v, e = .returned (.tuple #[v, er c]) ∧ Rd w' v (ints L) ∧ Below w.heap.size w w' := by
  rcases hw with ⟨h0, hc, rfl⟩ | ⟨h, hw⟩
  · refine (way_bad n s t p cap m ls w hm hi hs ht c hc h0).mono ?_
    rintro e w' ⟨rfl, hb⟩
    exact ⟨_, rfl, Rd.none _, hb⟩
  · obtain ⟨N, S, T, rfl, rfl, rfl, g, hS, hT⟩ := wrong_two h
    rw [Int.toNat_natCast, Int.toNat_natCast, Int.toNat_natCast] at hw
    exact way_good N S T p cap m ls w hm hi g hS hT c L hw
end Go.Proofs.YthicejpgfmhimaaDoor.Spf
