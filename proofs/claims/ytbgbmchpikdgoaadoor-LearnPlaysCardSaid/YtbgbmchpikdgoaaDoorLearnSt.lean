/- Package learn: how a switch lies in memory. X: blocks that are none of the switch's. No statement is proved here. -/
import Derived.Test.YtbgbmchpikdgoaaDoorLearnEnt
import Derived.Test.YtbgbmchpikdgoaaDoorKeep
namespace Go.Proofs.YtbgbmchpikdgoaaDoor.Learn
open Go.ChangeShapes Go.WideShapes Go.ChangeAt Go.RowKit Go.Proofs.YtbgbmchpikdgoaaDoor.Kit Go.Proofs.YtbgbmchpikdgoaaDoor.App Go.Proofs.YtbgbmchpikdgoaaDoor.Cells Go.Proofs.YtbgbmchpikdgoaaDoor.Err
set_option linter.unusedVariables false
set_option maxRecDepth 20000

/-- Block s is a switch whose slice v holds l. -/
structure SwV (X : Nat → Prop) (w : World) (s : Nat) (v : Value) (l : List E) : Prop where
  blk : Blk 49 w s [v]
  own : OE w 0 v l
  ne : ∀ k, v.ownBlock = some k → k ≠ s ∧ ¬ X k
  xs : ¬ X s
  xl : ∀ k, X k → k < w.heap.size
structure Sw (X : Nat → Prop) (w : World) (s : Nat) (l : List E) : Prop where
  ok : Ok l
  val : ∃ v, SwV X w s v l
variable {X Y : Nat → Prop} {w w' : World} {s : Nat} {v v' : Value} {l l' : List E}
theorem own_none {v : Value} {row : Option Nat} (h : ∀ k, v.ownBlock = some k → row ≠ some k) : v.ownBlock = none ∨ v.ownBlock ≠ row := by
  cases hv : v.ownBlock with
  | none => exact .inl rfl
  | some k => exact .inr (fun e => h k hv e.symm)
/-- Memory moved elsewhere; other blocks are not the switch's now. -/
theorem SwV.more (H : SwV X w s v l) {row : Option Nat} (hg : w.grownBy w' row) (hr : ∀ k, row = some k → X k) (hY : ∀ k, Y k → (X k ∨ w.heap.size ≤ k) ∧ k < w'.heap.size) : SwV Y w' s v l := by
  have hy : ∀ k, ¬ X k → k < w.heap.size → ¬ Y k := fun k h1 h2 h3 => by
    rcases (hY k h3).1 with h4 | h4
    · exact h1 h4
    · omega
  exact ⟨H.blk.more hg (fun e => H.xs (hr s e.symm)), H.own.more hg (own_none fun k hk e => (H.ne k hk).2 (hr k e)), fun k hk => ⟨(H.ne k hk).1, hy k (H.ne k hk).2 (H.own.lt k hk).2⟩, hy _ H.xs H.blk.lt, fun k hk => (hY k hk).2⟩
theorem SwV.below (H : SwV X w s v l) (hb : Below w.heap.size w w') : SwV X w' s v l :=
  H.more (gbel (g := none) hb) (fun k hk => by cases hk) (fun k hk => ⟨.inl hk, Nat.lt_of_lt_of_le (H.xl k hk) hb.size⟩)
/-- The slice has turned in memory, and is stored. -/
theorem SwV.turn (H : SwV X w s v l) (hg : w.grownBy w' v.ownBlock) (hat : ∀ k, v'.ownBlock = some k → v.ownBlock = some k ∨ w.heap.size ≤ k) (ho : OE w' 0 v' l') : SwV X (w'.setCell ⟨s, 0, none⟩ v') s v' l' := by
  have hne : ∀ k, v'.ownBlock = some k → k ≠ s ∧ ¬ X k := fun k hk => by
    rcases hat k hk with h | h
    · exact H.ne k h
    · have := H.blk.lt
      exact ⟨by omega, fun hx => by have := H.xl k hx; omega⟩
  refine ⟨?_, ho.more (set_grown w' s 0 v') (own_none fun k hk e => (hne k hk).1 (by injection e with e; exact e.symm)), hne, H.xs, fun k hk => ?_⟩
  · exact (H.blk.more hg (fun e => (H.ne s e.symm).1 rfl)).set 0 v'
  · rw [show (w'.setCell ⟨s, 0, none⟩ v').heap.size = w'.heap.size by simp [World.setCell]]
    exact Nat.lt_of_lt_of_le (H.xl k hk) hg.size
theorem SwV.keep (H : SwV X w s v l) (hg : w.grownBy w' v.ownBlock) : Keep X w w' := Keep.grown hg (fun k hk e => (H.ne k e.symm).2 hk) H.xl
theorem SwV.keep_set (H : SwV X w s v l) (v' : Value) : Keep X w (w.setCell ⟨s, 0, none⟩ v') := Keep.grown (set_grown w s 0 v') (fun k hk e => H.xs (by injection e with e; exact e ▸ hk)) H.xl
theorem SwV.keep_turn (H : SwV X w s v l) (hg : w.grownBy w' v.ownBlock) (v' : Value) : Keep X w (w'.setCell ⟨s, 0, none⟩ v') :=
  (H.keep hg).trans (Keep.grown (set_grown w' s 0 v') (fun k hk e => H.xs (by injection e with e; exact e ▸ hk)) (fun k hk => Nat.lt_of_lt_of_le (H.xl k hk) hg.size))
theorem Sw.more (H : Sw X w s l) {row : Option Nat} (hg : w.grownBy w' row) (hr : ∀ k, row = some k → X k) (hY : ∀ k, Y k → (X k ∨ w.heap.size ≤ k) ∧ k < w'.heap.size) : Sw Y w' s l := by
  obtain ⟨ok, v, h⟩ := H
  exact ⟨ok, v, h.more hg hr hY⟩
theorem Sw.below (H : Sw X w s l) (hb : Below w.heap.size w w') : Sw X w' s l := by
  obtain ⟨ok, v, h⟩ := H
  exact ⟨ok, v, h.below hb⟩
theorem Sw.xl (H : Sw X w s l) : ∀ k, X k → k < w.heap.size := by
  obtain ⟨ok, v, h⟩ := H
  exact h.xl
/-- Fewer blocks; more blocks that were made since. -/
theorem Sw.mono (H : Sw X w s l) (hY : ∀ k, Y k → X k) : Sw Y w s l :=
  H.more (row := none) (grefl w none) (fun k hk => by cases hk) (fun k hk => ⟨.inl (hY k hk), H.xl k (hY k hk)⟩)
theorem Sw.late (H : Sw X w s l) (hb : Below w.heap.size w w') (hY : ∀ k, Y k → (X k ∨ w.heap.size ≤ k) ∧ k < w'.heap.size) : Sw Y w' s l :=
  H.more (gbel (g := none) hb) (fun k hk => by cases hk) hY
end Go.Proofs.YtbgbmchpikdgoaaDoor.Learn
