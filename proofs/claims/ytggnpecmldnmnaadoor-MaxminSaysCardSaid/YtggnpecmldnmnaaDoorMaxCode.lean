/- Max-min fair shares: what is wrong with links and flows. No statement is proved here. -/
import Derived.Test.YtggnpecmldnmnaaDoorMaxMath
namespace Go.Proofs.YtggnpecmldnmnaaDoor.Maxmin
open Go.Proofs.YtggnpecmldnmnaaDoor.Drr
set_option linter.unusedVariables false

/-- Every number is from lo to hi. -/
def inn (lo hi : Int) (l : List Int) : Bool := l.all fun x => decide (lo ≤ x) && decide (x ≤ hi)
theorem inn_iff {lo hi : Int} {l : List Int} : inn lo hi l = true ↔ ∀ x ∈ l, lo ≤ x ∧ x ≤ hi := by simp [inn]
theorem inn_of {lo hi : Int} {l : List Int} (h : ∀ k : Nat, k < l.length → lo ≤ l[k]?.getD 0 ∧ l[k]?.getD 0 ≤ hi) : inn lo hi l = true := by
  refine inn_iff.2 fun x hx => ?_
  obtain ⟨k, hk, rfl⟩ := List.getElem_of_mem hx
  have := h k hk
  rwa [List.getElem?_eq_getElem hk] at this
theorem inn_false {lo hi : Int} {l : List Int} {k : Nat} (hk : k < l.length) (h : ¬ (lo ≤ l[k]?.getD 0 ∧ l[k]?.getD 0 ≤ hi)) : inn lo hi l = false := by
  cases hb : inn lo hi l with
  | false => rfl
  | true =>
    have := inn_iff.1 hb _ (List.getElem_mem hk)
    rw [List.getElem?_eq_getElem hk] at h
    exact absurd this h
def badW (L : Int) (w : List Int) : Int := if w.length = 0 then 5 else if inn 0 (L - 1) w = true then (if w.Nodup then 0 else 6) else 1
def badWs (L : Int) : List (List Int) → Int
  | [] => 0
  | l :: ls => if badW L l = 0 then badWs L ls else badW L l
def code (room : List Int) (ws : List (List Int)) : Int :=
  if 6 < room.length ∨ 5 < ws.length then 4 else if inn 0 1000 room = true then badWs room.length ws else 1
theorem badW_zero {L : Int} {w : List Int} : badW L w = 0 ↔ w ≠ [] ∧ (∀ x ∈ w, 0 ≤ x ∧ x ≤ L - 1) ∧ w.Nodup := by
  unfold badW
  rw [← inn_iff]
  by_cases h : w.length = 0
  · rw [if_pos h]
    have := List.eq_nil_of_length_eq_zero h
    simp [this]
  · rw [if_neg h]
    have : w ≠ [] := fun e => h (by rw [e]; rfl)
    cases hi : inn 0 (L - 1) w
    · simp
    · by_cases hd : w.Nodup
      · simp [this, hd]
      · simp [hd]
theorem badWs_zero {L : Int} : ∀ {ws : List (List Int)}, badWs L ws = 0 ↔ ∀ w ∈ ws, w ≠ [] ∧ (∀ x ∈ w, 0 ≤ x ∧ x ≤ L - 1) ∧ w.Nodup
  | [] => by simp [badWs]
  | l :: ls => by
    unfold badWs
    rw [List.forall_mem_cons, ← badWs_zero, ← badW_zero]
    by_cases h : badW L l = 0
    · rw [if_pos h]; simp [h]
    · rw [if_neg h]; simp [h]
theorem code_zero {room : List Int} {ws : List (List Int)} : code room ws = 0 ↔ Good room ws := by
  unfold code
  constructor
  · intro h
    by_cases h1 : 6 < room.length ∨ 5 < ws.length
    · rw [if_pos h1] at h; cases h
    · rw [if_neg h1] at h
      cases hi : inn 0 1000 room with
      | false => rw [hi] at h; simp at h
      | true =>
        rw [hi, if_pos rfl] at h
        have h2 := badWs_zero.1 h
        exact ⟨by omega, by omega, inn_iff.1 hi, fun w hw => (h2 w hw).1, fun w hw => (h2 w hw).2.1, fun w hw => (h2 w hw).2.2⟩
  · intro h
    rw [if_neg (by have := h.links; have := h.flows; omega), if_pos (inn_iff.2 h.caps)]
    exact badWs_zero.2 fun w hw => ⟨h.full w hw, h.here w hw, h.once w hw⟩
theorem badWs_at {L : Int} : ∀ (ws : List (List Int)) (k : Nat), k < ws.length → (∀ j, j < k → badW L (row ws j) = 0) → badW L (row ws k) ≠ 0 → badWs L ws = badW L (row ws k)
  | [], k, h, _, _ => by simp at h
  | l :: ls, 0, h, hz, hk => by
    have : row (l :: ls) 0 = l := rfl
    rw [this] at hk ⊢
    unfold badWs; rw [if_neg hk]
  | l :: ls, k + 1, h, hz, hk => by
    have h0 := hz 0 (by omega)
    have e0 : row (l :: ls) 0 = l := rfl
    have e1 : row (l :: ls) (k + 1) = row ls k := rfl
    rw [e0] at h0
    rw [e1] at hk ⊢
    unfold badWs
    rw [if_pos h0]
    exact badWs_at ls k (by simpa using h) (fun j hj => by have := hz (j + 1) (by omega); exact this) hk
theorem badWs_none {L : Int} {ws : List (List Int)} (h : ∀ j, j < ws.length → badW L (row ws j) = 0) : badWs L ws = 0 := by
  refine badWs_zero.2 fun l hl => ?_
  obtain ⟨k, hk, rfl⟩ := List.getElem_of_mem hl
  have := h k hk
  unfold row at this
  rw [List.getElem?_eq_getElem hk] at this
  exact badW_zero.1 this
theorem nodup_step {l : List Int} {k : Nat} (h : (l.take k).Nodup) (hk : k < l.length) (hx : l[k]?.getD 0 ∉ l.take k) : (l.take (k + 1)).Nodup := by
  have e : l.take (k + 1) = l.take k ++ [l[k]?.getD 0] := by rw [List.take_add_one, List.getElem?_eq_getElem hk]; rfl
  rw [e, List.nodup_append]
  exact ⟨h, by simp, fun a ha b hb => by simp at hb; subst hb; intro e2; subst e2; exact hx ha⟩
theorem nodup_not {l : List Int} {k : Nat} (hk : k < l.length) (hx : l[k]?.getD 0 ∈ l.take k) : ¬ l.Nodup := fun h => by
  have h2 : (l.take (k + 1)).Nodup := h.sublist (List.take_sublist _ _)
  have e : l.take (k + 1) = l.take k ++ [l[k]?.getD 0] := by rw [List.take_add_one, List.getElem?_eq_getElem hk]; rfl
  rw [e, List.nodup_append] at h2
  exact h2.2.2 _ hx _ (by simp) rfl
end Go.Proofs.YtggnpecmldnmnaaDoor.Maxmin
