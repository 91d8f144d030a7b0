/- Fragments in a stable order: there is one. No statement is proved here. -/
import Derived.Test.YtaflpdagehocfaaDoorJoinMore
namespace Go.Proofs.YtaflpdagehocfaaDoor.Part
set_option linter.unusedVariables false

def ahead (a b : Prt × Nat) : Prop := a.1.pos < b.1.pos ∨ (a.1.pos = b.1.pos ∧ a.2 < b.2)
/-- m is l in its stable order. -/
def Ordered (l m : List Prt) : Prop := ∃ Z : List (Prt × Nat), Z.Perm l.zipIdx ∧ Z.Pairwise ahead ∧ m = Z.map (·.1)
theorem ahead_asymm {a b : Prt × Nat} (h : ahead a b) (h2 : ahead b a) : False := by unfold ahead at h h2; omega
theorem ahead_trans {a b c : Prt × Nat} (h : ahead a b) (h2 : ahead b c) : ahead a c := by unfold ahead at h h2 ⊢; omega
theorem unique : ∀ {Y Z : List (Prt × Nat)}, Y.Perm Z → Y.Pairwise ahead → Z.Pairwise ahead → Y = Z
  | [], Z, hp, _, _ => (List.Perm.nil_eq hp)
  | a :: Y, Z, hp, hy, hz => by
    cases Z with
    | nil => exact absurd hp.length_eq (by simp)
    | cons b Z =>
      have hy' := List.pairwise_cons.1 hy
      have hz' := List.pairwise_cons.1 hz
      have hab : a = b := by
        have ha : a ∈ b :: Z := hp.subset (by simp)
        have hb : b ∈ a :: Y := hp.symm.subset (by simp)
        rcases List.mem_cons.1 ha with e | ha
        · exact e
        · rcases List.mem_cons.1 hb with e | hb
          · exact e.symm
          · exact absurd (hz'.1 a ha) (fun h => ahead_asymm h (hy'.1 b hb))
      subst hab
      rw [unique (List.Perm.cons_inv hp) hy'.2 hz'.2]
theorem ordered_unique {l m n : List Prt} (h1 : Ordered l m) (h2 : Ordered l n) : m = n := by
  obtain ⟨Y, a1, a2, rfl⟩ := h1
  obtain ⟨Z, b1, b2, rfl⟩ := h2
  rw [unique (a1.trans b1.symm) a2 b2]
theorem ordered_perm {l m : List Prt} (h : Ordered l m) : m.Perm l := by
  obtain ⟨Z, h1, _, rfl⟩ := h
  have := h1.map (·.1)
  rwa [List.zipIdx_map_fst] at this
theorem ordered_le {l m : List Prt} (h : Ordered l m) : m.Pairwise fun a b => a.pos ≤ b.pos := by
  obtain ⟨Z, _, h2, rfl⟩ := h
  rw [List.pairwise_map]
  exact h2.imp (fun h => by unfold ahead at h; omega)
theorem ordered_nil : Ordered [] [] := ⟨[], .refl _, .nil, rfl⟩
/-- One more, behind all that do not stand behind it. -/
theorem ordered_snoc {l m : List Prt} {x : Prt} (h : Ordered l m) (i : Nat) (hi : i ≤ m.length) (h1 : ∀ y ∈ m.take i, y.pos ≤ x.pos) (h2 : ∀ y ∈ m.drop i, x.pos < y.pos) : Ordered (l ++ [x]) (m.take i ++ x :: m.drop i) := by
  obtain ⟨Z, a1, a2, rfl⟩ := h
  rw [List.length_map] at hi
  have hmem : ∀ z ∈ Z, z.2 < l.length := fun z hz => by
    have := a1.subset hz
    obtain ⟨a, b⟩ := z
    have := List.mem_zipIdx this
    simp at this; omega
  refine ⟨Z.take i ++ (x, l.length) :: Z.drop i, ?_, ?_, ?_⟩
  · rw [List.zipIdx_append]
    have h3 : (Z.take i ++ (x, l.length) :: Z.drop i).Perm ((x, l.length) :: (Z.take i ++ Z.drop i)) := List.perm_middle
    rw [List.take_append_drop] at h3
    refine h3.trans ?_
    have h4 : ((x, l.length) :: Z).Perm (Z ++ [(x, l.length)]) := List.perm_append_comm (l₁ := [(x, l.length)])
    refine h4.trans (a1.append_right _ |>.trans ?_)
    simp
  · have hp : (Z.take i ++ Z.drop i).Pairwise ahead := by rw [List.take_append_drop]; exact a2
    obtain ⟨p1, p2, p3⟩ := List.pairwise_append.1 hp
    refine List.pairwise_append.2 ⟨p1, List.pairwise_cons.2 ⟨fun z hz => ?_, p2⟩, fun z hz y hy => ?_⟩
    · have := h2 z.1 (by rw [← List.map_drop]; exact List.mem_map.2 ⟨z, hz, rfl⟩)
      exact .inl this
    · rcases List.mem_cons.1 hy with rfl | hy
      · have h5 := h1 z.1 (by rw [← List.map_take]; exact List.mem_map.2 ⟨z, hz, rfl⟩)
        have h6 := hmem z (List.mem_of_mem_take hz)
        unfold ahead; simp only; omega
      · exact p3 z hz y hy
  · rw [List.map_append, List.map_cons, List.map_take, List.map_drop]
end Go.Proofs.YtaflpdagehocfaaDoor.Part
