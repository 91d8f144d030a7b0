/- Shortest paths: one link more. Mathematics alone. No statement is proved here. -/
import Derived.Test.YthicejpgfmhimaaSpfMath
namespace Go.Proofs.Ythicejpgfmhimaa.Spf
open Go.Proofs.Ythicejpgfmhimaa.Vector
set_option linter.unusedVariables false

variable {n : Nat} {ls : List Lk} {x : Lk}
theorem ed_more {i j : Nat} {c : Int} (h : Ed ls i j c) : Ed (ls ++ [x]) i j c := by
  obtain ⟨l, hl, hc, h⟩ := h
  exact ⟨l, List.mem_append_left _ hl, hc, h⟩
theorem way_more {k i j : Nat} {c : Int} (h : Vector.Way ls k i j c) : Vector.Way (ls ++ [x]) k i j c := by
  induction h with
  | nil i => exact .nil i
  | cons e _ ih => exact .cons (ed_more e) ih
theorem more_le (g : Vector.Good n ls) (i j : Nat) : ds (ls ++ [x]) i j ≤ ds ls i j := by
  rcases D_way g 8 i j with e | ⟨q, hq, hw⟩
  · show D _ 8 i j ≤ D ls 8 i j
    rw [e]; exact D_top (n := n) 8 i j
  · exact D_le (way_more hw) 8 hq
theorem more_same (g : Vector.Good n ls) (g2 : Vector.Good n (ls ++ [x])) {s : Nat} (h1 : ds ls s x.b.toNat ≤ ds ls s x.a.toNat + x.c) (h2 : ds ls s x.a.toNat ≤ ds ls s x.b.toNat + x.c) (t : Nat) : ds (ls ++ [x]) s t = ds ls s t := by
  have key : ∀ {k i j : Nat} {c : Int}, Vector.Way (ls ++ [x]) k i j c → ds ls s j ≤ ds ls s i + c := by
    intro k i j c h
    induction h with
    | nil i => omega
    | @cons k i m j c d e _ ih =>
      have : ds ls s m ≤ ds ls s i + c := by
        obtain ⟨l, hl, rfl, h⟩ := e
        rcases List.mem_append.1 hl with hl | hl
        · have t1 := ds_tri g s i m
          have e2 : Ed ls i m l.c := ⟨l, hl, rfl, h⟩
          have t2 := D_le (Way.one e2) 8 (by omega)
          have t3 : ds ls i m ≤ l.c := t2
          omega
        · rw [List.mem_singleton.1 hl] at h ⊢
          rcases h with ⟨rfl, rfl⟩ | ⟨rfl, rfl⟩
          · exact h1
          · exact h2
      omega
  refine Int.le_antisymm (more_le g s t) ?_
  rcases D_way g2 8 s t with e | ⟨q, hq, hw⟩
  · have h3 : ds (ls ++ [x]) s t = 1000 := e
    rw [h3]; exact ds_top g s t
  · have h3 := key hw
    have h4 := ds_self g s
    have h5 : D (ls ++ [x]) 8 s t = ds (ls ++ [x]) s t := rfl
    omega
end Go.Proofs.Ythicejpgfmhimaa.Spf
