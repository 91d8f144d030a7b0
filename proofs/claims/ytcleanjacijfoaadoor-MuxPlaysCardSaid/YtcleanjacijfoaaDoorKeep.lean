/- Some blocks of memory stay as they are. General. No statement is proved here. -/
import Derived.Test.YtcleanjacijfoaaDoorErr
import Derived.Test.YtcleanjacijfoaaDoorOwnI
namespace Go.Proofs.YtcleanjacijfoaaDoor.Err
open Go.ChangeShapes Go.WideShapes Go.ChangeAt Go.RowKit Go.Proofs.YtcleanjacijfoaaDoor.Kit Go.Proofs.YtcleanjacijfoaaDoor.App
set_option linter.unusedVariables false
set_option maxRecDepth 20000

/-- The blocks X are as they were. -/
structure Keep (X : Nat → Prop) (w w' : World) : Prop where
  os : w'.os = w.os
  tape : w'.tape = w.tape
  output : w'.output = w.output
  size : w.heap.size ≤ w'.heap.size
  block : ∀ k, X k → w'.heap[k]? = w.heap[k]?
variable {X Y : Nat → Prop} {w w' w'' : World}
theorem Keep.refl (X : Nat → Prop) (w : World) : Keep X w w := ⟨rfl, rfl, rfl, Nat.le_refl _, fun _ _ => rfl⟩
theorem Keep.trans (h : Keep X w w') (h' : Keep X w' w'') : Keep X w w'' :=
  ⟨h'.os.trans h.os, h'.tape.trans h.tape, h'.output.trans h.output, Nat.le_trans h.size h'.size, fun k hk => (h'.block k hk).trans (h.block k hk)⟩
theorem Keep.grown {row : Option Nat} (hg : w.grownBy w' row) (hr : ∀ k, X k → some k ≠ row) (hx : ∀ k, X k → k < w.heap.size) : Keep X w w' :=
  ⟨hg.os, hg.tape, hg.output, hg.size, fun k hk => hg.block k (hx k hk) (hr k hk)⟩
theorem Keep.below {B : Nat} (h : Keep X w w') (hX : ∀ k, k < B → X k) : Below B w w' := ⟨h.os, h.tape, h.output, h.size, fun k hk => h.block k (hX k hk)⟩
theorem Keep.mono (h : Keep X w w') (hX : ∀ k, Y k → X k) : Keep Y w w' := ⟨h.os, h.tape, h.output, h.size, fun k hk => h.block k (hX k hk)⟩
theorem Keep.of_below (h : Below w.heap.size w w') (hx : ∀ k, X k → k < w.heap.size) : Keep X w w' := ⟨h.os, h.tape, h.output, h.size, fun k hk => h.block k (hx k hk)⟩
theorem Keep.ints {p : Option Addr} {cap : Nat} {l : List Int} (hk : Keep X w w') (h : Ints w p cap l) (hX : ∀ a, p = some a → X a.block) : Ints w' p cap l := h.keep hk.size (fun a e _ => hk.block _ (hX a e))
/-- A list of the call's own as it reads, and where it lies. -/
theorem own_read {base : Nat} {v : Value} {l : List Int} (h : OwnI w base v l) : ∃ p cap, v = .slice p l.length cap ∧ Ints w p cap l ∧ ∀ a, p = some a → base ≤ a.block ∧ a.block < w.heap.size ∧ v.ownBlock = some a.block := by
  have hlt := h.lt
  obtain ⟨p, cap, rfl, hi⟩ := h.form
  refine ⟨p, cap, rfl, hi, fun a e => ?_⟩
  subst e
  have := hlt a.block rfl
  exact ⟨this.1, this.2, rfl⟩
end Go.Proofs.YtcleanjacijfoaaDoor.Err
