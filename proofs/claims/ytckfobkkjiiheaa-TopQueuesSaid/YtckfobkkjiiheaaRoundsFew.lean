/- Package rounds: packets as they may be, and their cells. No statement is proved here. -/
import Derived.Test.YtckfobkkjiiheaaPacket
import Derived.Test.YtckfobkkjiiheaaBlk
import Derived.Test.YtckfobkkjiiheaaErr
namespace Go.Proofs.Ytckfobkkjiiheaa.Rounds
open Go.ChangeShapes Go.WideShapes Go.ChangeAt Go.RowKit Go.Proofs.Ytckfobkkjiiheaa.Kit Go.Proofs.Ytckfobkkjiiheaa.App Go.Proofs.Ytckfobkkjiiheaa.Cells Go.Proofs.Ytckfobkkjiiheaa.Err Go.Proofs.Ytckfobkkjiiheaa.Drr
set_option linter.unusedVariables false
set_option maxRecDepth 20000
set_option maxHeartbeats 1000000

/-- Packets as they may be. -/
structure Few (m : List Pk) : Prop where
  len : m.length ≤ 40
  num : ∀ x ∈ m, ∃ k : Nat, k < 5 ∧ x.num = (k : Int)
  size : ∀ x ∈ m, 1 ≤ x.size ∧ x.size ≤ 20
  rnd : ∀ x ∈ m, 1 ≤ x.rnd ∧ x.rnd ≤ 160
theorem Srt.few {qs : List (List Int)} (hg : Drr.Good qs) {m : List Pk} (h : Srt qs m) : Few m := by
  refine ⟨by rw [h.len]; exact things_le hg, fun x hx => ?_, fun x hx => ?_, fun x hx => ?_⟩
  · obtain ⟨k, h1, h2⟩ := h.num x hx
    exact ⟨k, Nat.lt_of_lt_of_le h1 hg.1, h2⟩
  · obtain ⟨k, h1, h2⟩ := h.num x hx
    obtain ⟨j, hj⟩ := List.getElem?_of_mem hx
    obtain ⟨h3, h4, h5⟩ := h.at hg hj h2
    rw [h4, List.getElem?_eq_getElem h3]
    exact (hg.row k).2 _ (List.getElem_mem h3)
  · obtain ⟨k, h1, h2⟩ := h.num x hx
    obtain ⟨j, hj⟩ := List.getElem?_of_mem hx
    obtain ⟨h3, h4, h5⟩ := h.at hg hj h2
    rw [h5]
    have h6 := hg.row k
    have h7 := tot_le (l := (row qs k).take (((nums m).take j).count (k : Int) + 1)) (M := 20) (fun y hy => (h6.2 y (List.mem_of_mem_take hy)).2)
    have h8 := tot_mono (l := row qs k) (fun y hy => (h6.2 y hy).1) (show 1 ≤ ((nums m).take j).count (k : Int) + 1 by omega)
    have h9 : ((row qs k).take (((nums m).take j).count (k : Int) + 1)).length ≤ 8 := Nat.le_trans (by rw [List.length_take]; omega) h6.1
    cases hr : row qs k with
    | nil => rw [hr] at h3; simp at h3
    | cons y l =>
      have h10 := (h6.2 y (by rw [hr]; simp)).1
      have h11 : tot ((row qs k).take 1) = y := by rw [hr]; simp [tot]
      rw [← hr]
      omega
theorem part_in : ∀ (m : List Pk) (k : Nat), (∀ x ∈ m, 1 ≤ x.size ∧ x.size ≤ 20) → 0 ≤ part m k ∧ part m k ≤ 20 * m.length := fun m k h => by
  have h1 : ∀ x ∈ sizes (sel k m), 1 ≤ x ∧ x ≤ 20 := fun x hx => by
    obtain ⟨p, hp, rfl⟩ := List.mem_map.1 hx
    exact h p (List.mem_filter.1 hp).1
  have h2 := tot_nonneg (fun x hx => (h1 x hx).1)
  have h3 := tot_le (M := 20) (fun x hx => (h1 x hx).2)
  have h4 : (sizes (sel k m)).length ≤ m.length := by
    unfold sizes
    rw [List.length_map]
    exact List.length_filter_le ..
  unfold part
  omega
theorem part_take {m : List Pk} {j k : Nat} {p : Pk} (hp : m[j]? = some p) (hk : p.num = (k : Int)) : part (m.take (j + 1)) = fun i => if i = k then part (m.take j) k + p.size else part (m.take j) i := by
  funext i
  rw [List.take_add_one, hp]
  show part (m.take j ++ [p]) i = _
  rw [part_one _ p k i hk]
  by_cases e : i = k
  · subst e; rw [if_pos rfl, if_pos rfl]
  · rw [if_neg e, if_neg e, Int.add_zero]
/-- The cells of a packet of a slice. -/
theorem pk_cells {w : World} {b off cap : Nat} {m : List Pk} (h : CI lay w (some ⟨b, off, none⟩) cap m) {j : Nat} {x : Pk} (hj : m[j]? = some x) :
    w.cell? ⟨b, off + j * 3, none⟩ = some (.int .i64 x.num) ∧ w.cell? ⟨b, off + j * 3 + 1, none⟩ = some (.int .i64 x.size) ∧ w.cell? ⟨b, off + j * 3 + 2, none⟩ = some (.int .i64 x.rnd) := by
  obtain ⟨b', off', e, _, hc⟩ := h.2.2 (by have := (List.getElem?_eq_some_iff.1 hj).1; omega)
  injection e with e
  injection e with e1 e2
  subst e1; subst e2
  exact ⟨hc j x hj 0 _ rfl, hc j x hj 1 _ rfl, hc j x hj 2 _ rfl⟩
theorem pk_some {w : World} {p : Option Addr} {cap : Nat} {m : List Pk} (h : CI lay w p cap m) (h0 : 0 < m.length) : ∃ b off, p = some ⟨b, off, none⟩ := by
  obtain ⟨b, off, e, _⟩ := h.2.2 h0
  exact ⟨b, off, e⟩

end Go.Proofs.Ytckfobkkjiiheaa.Rounds
