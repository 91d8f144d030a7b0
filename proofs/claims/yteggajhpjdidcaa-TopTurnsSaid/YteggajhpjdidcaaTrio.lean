/- Three slices of numbers of the call's own, that grow. General. No statement is proved here. -/
import Derived.Test.YteggajhpjdidcaaApt
import Derived.Test.YteggajhpjdidcaaErr
namespace Go.Proofs.Yteggajhpjdidcaa.App
open Go.ChangeShapes Go.WideShapes Go.ChangeAt Go.RowKit Go.Proofs.Yteggajhpjdidcaa.Kit Go.Proofs.Yteggajhpjdidcaa.Err
set_option linter.unusedVariables false
set_option maxRecDepth 20000

structure Trio (w0 w : World) (u v x : Value) (A B C : List Int) : Prop where
  o1 : OwnI w w0.heap.size u A
  o2 : OwnI w w0.heap.size v B
  o3 : OwnI w w0.heap.size x C
  a12 : Apt u v
  a13 : Apt u x
  a23 : Apt v x
  bel : Below w0.heap.size w0 w
variable {w0 w w' : World} {u v x u' v' x' : Value} {A B C A' B' C' : List Int}
theorem Trio.nil (hb : Below w0.heap.size w0 w) : Trio w0 w (.slice none 0 0) (.slice none 0 0) (.slice none 0 0) [] [] [] := ⟨OwnI.nil _ _, OwnI.nil _ _, OwnI.nil _ _, Apt.nil _, Apt.nil _, Apt.nil _, hb⟩
theorem Trio.below (H : Trio w0 w u v x A B C) (hb : Below w.heap.size w w') : Trio w0 w' u v x A B C := ⟨H.o1.below hb, H.o2.below hb, H.o3.below hb, H.a12, H.a13, H.a23, bcall H.bel hb⟩
theorem Trio.alloc (H : Trio w0 w u v x A B C) (o : Obj) : Trio w0 (w.alloc o) u v x A B C := H.below (balloc (brefl w) o)
theorem Trio.drewN (H : Trio w0 w u v x A B C) (k : Nat) : Trio w0 (w.drewN k) u v x A B C := H.below (bdrewN (brefl w) k)
theorem Apt.grown {w w' : World} {base : Nat} {u v v' : Value} {A : List Int} (h : Apt u v) (ho : OwnI w base u A) (hv : v'.ownBlock = v.ownBlock ∨ v'.ownBlock = some w.heap.size) : Apt u v' := h.grow (fun k hk => (ho.lt k hk).2) (Nat.le_refl _) hv
theorem Trio.app1 (H : Trio w0 w u v x A B C) (ho : OwnI w' w0.heap.size u' A') (hg : w.grownBy w' u.ownBlock) (hv : u'.ownBlock = u.ownBlock ∨ u'.ownBlock = some w.heap.size) : Trio w0 w' u' v x A' B C :=
  ⟨ho, H.o2.more hg H.a12.symm.ne, H.o3.more hg H.a13.symm.ne, (H.a12.symm.grown (w' := w') H.o2 hv).symm, (H.a13.symm.grown (w' := w') H.o3 hv).symm, H.a23, below_app H.bel H.o1 hg H.bel.size⟩
theorem Trio.app2 (H : Trio w0 w u v x A B C) (ho : OwnI w' w0.heap.size v' B') (hg : w.grownBy w' v.ownBlock) (hv : v'.ownBlock = v.ownBlock ∨ v'.ownBlock = some w.heap.size) : Trio w0 w' u v' x A B' C :=
  ⟨H.o1.more hg H.a12.ne, ho, H.o3.more hg H.a23.symm.ne, H.a12.grown (w' := w') H.o1 hv, H.a13, (H.a23.symm.grown (w' := w') H.o3 hv).symm, below_app H.bel H.o2 hg H.bel.size⟩
theorem Trio.app3 (H : Trio w0 w u v x A B C) (ho : OwnI w' w0.heap.size x' C') (hg : w.grownBy w' x.ownBlock) (hv : x'.ownBlock = x.ownBlock ∨ x'.ownBlock = some w.heap.size) : Trio w0 w' u v x' A B C' :=
  ⟨H.o1.more hg H.a13.ne, H.o2.more hg H.a23.ne, ho, H.a12, H.a13.grown (w' := w') H.o1 hv, H.a23.grown (w' := w') H.o2 hv, below_app H.bel H.o3 hg H.bel.size⟩
end Go.Proofs.Yteggajhpjdidcaa.App
