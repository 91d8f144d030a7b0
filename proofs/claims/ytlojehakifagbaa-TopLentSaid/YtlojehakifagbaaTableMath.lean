/- What is found where a route has been set; a route set and dropped. No statement is proved here. -/
import Derived.Test.YtlojehakifagbaaFindMath
namespace Go.Proofs.Ytlojehakifagbaa.RouteMath
open Go.Proofs.Ytlojehakifagbaa.CidrMath
set_option linter.unusedVariables false

theorem has_key {x r : Rt} {a : Nat} (hx : has (key x) a) (hr : ¬ has (key r) a) : key x ≠ key r := fun e => hr (e ▸ hx)
theorem set_good {l : List Rt} (hs : Sorted l) (hg : ∀ x ∈ l, CidrMath.Good (key x)) {r : Rt} (hr : CidrMath.Good (key r)) (is : Bool) (hi : is = true ↔ Is l (key r)) : ∀ x ∈ setR l r is, CidrMath.Good (key x) := fun x hx => by
  rcases (set_mem hs r is hi x).1 hx with rfl | ⟨h, _⟩
  · exact hr
  · exact hg x h
/-- The route that was set is the longest one. -/
theorem find_set_in {l : List Rt} (hs : Sorted l) (hg : ∀ x ∈ l, CidrMath.Good (key x)) {r : Rt} (hr : CidrMath.Good (key r)) (is : Bool) (hi : is = true ↔ Is l (key r)) {a : Nat} (ha : has (key r) a) (hl : ∀ x, findR l a = some x → x.len ≤ r.len) : findR (setR l r is) a = some r := by
  refine find_top (set_sorted hs r is hi) (set_good hs hg hr is hi) ⟨(set_mem hs r is hi r).2 (.inl rfl), ha, fun y hy hh => ?_⟩
  rcases (set_mem hs r is hi y).1 hy with rfl | ⟨hy, _⟩
  · exact Int.le_refl _
  · cases e : findR l a with
    | none => exact absurd hh (find_none.1 e y hy)
    | some x => exact Int.le_trans ((find_some e).long y hy hh) (hl x e)
/-- The route that was set has not the address, or is no match for a longer one. -/
theorem find_set_out {l : List Rt} (hs : Sorted l) (hg : ∀ x ∈ l, CidrMath.Good (key x)) {r : Rt} (hr : CidrMath.Good (key r)) (is : Bool) (hi : is = true ↔ Is l (key r)) {a : Nat} (hno : ¬ has (key r) a ∨ ∃ x, findR l a = some x ∧ r.len < x.len) : findR (setR l r is) a = findR l a := by
  cases e : findR l a with
  | none =>
    have hn : ¬ has (key r) a := by
      rcases hno with h | ⟨x, h, _⟩
      · exact h
      · rw [e] at h; cases h
    refine find_none.2 fun y hy => ?_
    rcases (set_mem hs r is hi y).1 hy with rfl | ⟨hy, _⟩
    · exact hn
    · exact find_none.1 e y hy
  | some x =>
    have hx := find_some e
    refine find_top (set_sorted hs r is hi) (set_good hs hg hr is hi) ⟨(set_mem hs r is hi x).2 (.inr ⟨hx.mem, ?_⟩), hx.has, fun y hy hh => ?_⟩
    · rcases hno with h | ⟨z, h, hl⟩
      · exact has_key hx.has h
      · rw [e] at h
        have hz := Option.some.inj h
        subst hz
        intro h2
        have : x.len = r.len := congrArg Pfx.len h2
        omega
    · rcases (set_mem hs r is hi y).1 hy with rfl | ⟨hy, _⟩
      · rcases hno with h | ⟨z, h, hl⟩
        · exact absurd hh h
        · rw [e] at h
          rw [Option.some.inj h]; omega
      · exact hx.long y hy hh
/-- A new route set and dropped: the table as it was. -/
theorem drop_set {l : List Rt} (hs : Sorted l) (r : Rt) (hn : ¬ Is l (key r)) : dropR (setR l r false) (key r) = l ∧ Is (setR l r false) (key r) := by
  have hi : false = true ↔ Is l (key r) := ⟨fun h => by simp at h, fun h => absurd h hn⟩
  have hs2 := set_sorted hs r false hi
  have hI : Is (setR l r false) (key r) := (is_iff hs2 _).2 ⟨r, (set_mem hs r false hi r).2 (.inl rfl), rfl⟩
  refine ⟨sorted_ext (drop_sorted hs2 _) hs fun x => ?_, hI⟩
  rw [drop_mem hs2 hI, set_mem hs r false hi]
  constructor
  · rintro ⟨rfl | ⟨h, _⟩, h2⟩
    · exact absurd rfl h2
    · exact h
  · intro h
    have h2 : key x ≠ key r := fun e => hn ((is_iff hs _).2 ⟨x, h, e⟩)
    exact ⟨.inr ⟨h, h2⟩, h2⟩
/-- Routes of one hop: what is found has that hop, and is found just where some prefix has the address. -/
theorem find_hop {l : List Rt} {h : Int} (hh : ∀ x ∈ l, x.hop = h) (a : Nat) : (∀ x, findR l a = some x → x.hop = h) ∧ (findR l a = none ↔ ¬ cov (l.map key) a) := by
  refine ⟨fun x e => hh x (find_some e).mem, ?_⟩
  rw [find_none]
  constructor
  · rintro hn ⟨p, hp, hpa⟩
    obtain ⟨x, hx, rfl⟩ := List.mem_map.1 hp
    exact hn x hx hpa
  · intro hn x hx hxa
    exact hn ⟨key x, List.mem_map.2 ⟨x, hx, rfl⟩, hxa⟩
end Go.Proofs.Ytlojehakifagbaa.RouteMath
