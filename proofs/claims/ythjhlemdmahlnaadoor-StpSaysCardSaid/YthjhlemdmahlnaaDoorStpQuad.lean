/- Three slices of numbers that grow, one of truths that is written in place; how far all are, in memory of its own. No statement is proved here. -/
import Derived.Test.YthjhlemdmahlnaaDoorStpUse
import Derived.Test.YthjhlemdmahlnaaDoorSpfFar
namespace Go.Proofs.YthjhlemdmahlnaaDoor.Stp
open Go.ChangeShapes Go.WideShapes Go.ChangeAt Go.RowKit Go.Proofs.YthjhlemdmahlnaaDoor.Kit Go.Proofs.YthjhlemdmahlnaaDoor.App Go.Proofs.YthjhlemdmahlnaaDoor.Cells Go.Proofs.YthjhlemdmahlnaaDoor.Err Go.Proofs.YthjhlemdmahlnaaDoor.Vector Go.Proofs.YthjhlemdmahlnaaDoor.Spf Go.Proofs.YthjhlemdmahlnaaDoor.Truth
set_option linter.unusedVariables false
set_option maxRecDepth 20000

structure Quad (w0 w : World) (G m : Nat) (u v x : Value) (A B C : List Int) (U : List Bool) : Prop where
  t : Trio w0 w u v x A B C
  o : OwnT w w0.heap.size (.slice (some ⟨G, 0, none⟩) m m) U
  n1 : u.ownBlock ≠ some G
  n2 : v.ownBlock ≠ some G
  n3 : x.ownBlock ≠ some G
variable {w0 w w' : World} {G m : Nat} {u v x u' v' x' : Value} {A B C A' B' C' : List Int} {U : List Bool}
theorem Quad.lo (H : Quad w0 w G m u v x A B C U) : w0.heap.size ≤ G ∧ G < w.heap.size := H.o.lt G rfl
theorem Quad.below (H : Quad w0 w G m u v x A B C U) (hb : Below w.heap.size w w') : Quad w0 w' G m u v x A B C U := ⟨H.t.below hb, H.o.below hb, H.n1, H.n2, H.n3⟩
theorem Quad.alloc (H : Quad w0 w G m u v x A B C U) (o : Obj) : Quad w0 (w.alloc o) G m u v x A B C U := H.below (balloc (brefl w) o)
theorem Quad.drewN (H : Quad w0 w G m u v x A B C U) (k : Nat) : Quad w0 (w.drewN k) G m u v x A B C U := H.below (bdrewN (brefl w) k)
theorem Quad.off (H : Quad w0 w G m u v x A B C U) {y y' : Value} (hy : y.ownBlock ≠ some G) (hv : y'.ownBlock = y.ownBlock ∨ y'.ownBlock = some w.heap.size) : y'.ownBlock ≠ some G := by
  rcases hv with e | e
  · rw [e]; exact hy
  · rw [e]
    intro h
    injection h with h
    have := H.lo.2
    omega
theorem Quad.app1 (H : Quad w0 w G m u v x A B C U) (ho : OwnI w' w0.heap.size u' A') (hg : w.grownBy w' u.ownBlock) (hv : u'.ownBlock = u.ownBlock ∨ u'.ownBlock = some w.heap.size) : Quad w0 w' G m u' v x A' B C U :=
  ⟨H.t.app1 ho hg hv, H.o.more hg (.inr fun e => H.n1 e.symm), H.off H.n1 hv, H.n2, H.n3⟩
theorem Quad.app2 (H : Quad w0 w G m u v x A B C U) (ho : OwnI w' w0.heap.size v' B') (hg : w.grownBy w' v.ownBlock) (hv : v'.ownBlock = v.ownBlock ∨ v'.ownBlock = some w.heap.size) : Quad w0 w' G m u v' x A B' C U :=
  ⟨H.t.app2 ho hg hv, H.o.more hg (.inr fun e => H.n2 e.symm), H.n1, H.off H.n2 hv, H.n3⟩
theorem Quad.app3 (H : Quad w0 w G m u v x A B C U) (ho : OwnI w' w0.heap.size x' C') (hg : w.grownBy w' x.ownBlock) (hv : x'.ownBlock = x.ownBlock ∨ x'.ownBlock = some w.heap.size) : Quad w0 w' G m u v x' A B C' U :=
  ⟨H.t.app3 ho hg hv, H.o.more hg (.inr fun e => H.n3 e.symm), H.n1, H.n2, H.off H.n3 hv⟩
theorem Quad.set (H : Quad w0 w G m u v x A B C U) (k : Nat) (b : Bool) : Quad w0 (w.setCell ⟨G, k, none⟩ (.bool b)) G m u v x A B C (U.set k b) :=
  ⟨⟨H.t.o1.more (set_grown w G k _) (.inr H.n1), H.t.o2.more (set_grown w G k _) (.inr H.n2), H.t.o3.more (set_grown w G k _) (.inr H.n3), H.t.a12, H.t.a13, H.t.a23, below_set H.t.bel G k _ H.lo.1⟩, H.o.set k b, H.n1, H.n2, H.n3⟩
theorem keep_cell {b k : Nat} {y : Value} {row : Option Nat} (h : w.cell? ⟨b, k, none⟩ = some y) (hg : w.grownBy w' row) (hne : row ≠ some b) : w'.cell? ⟨b, k, none⟩ = some y := by
  have hlt : b < w.heap.size := by
    rcases Nat.lt_or_ge b w.heap.size with hlt | hge
    · exact hlt
    · unfold World.cell? at h; rw [Array.getElem?_eq_none hge] at h; simp at h
  exact (World.cell?_of_block (hg.block b hlt (fun e => hne e.symm))).trans h
theorem rfar_own (n t : Nat) (p : Option Addr) (cap m : Nat) (ls : List Lk) (w : World) (g : Vector.Good n ls) (hm : m = ls.length) (hi : CI layL w p cap ls) (ht : t < n) :
    Calls Tryd.prog 5 #[.int .i64 (n : Int), .slice p m cap, .int .i64 (t : Int)] w fun e w' => ∃ q c, e = .returned (.slice q n c) ∧ Ints w' q c (rw1 n (ds ls t)) ∧ (∀ a, q = some a → w.heap.size ≤ a.block) ∧ Below w.heap.size w w' := by
  have C := Lib.hid (rwalks_any n t n p cap m ls w g hm hi ht (by have := g.up; omega))
  rw [far_ds g] at C
  clear g hm hi ht
  go_enter Tryd.func5, Tryd.ntmps5
  go_wp2_with fail
  refine C.out.mono ?_; rintro e w1 ⟨q, c, rfl, hi, ha, hb⟩
  have HI := Lib.hid hi
  have HA := Lib.hid ha
  have HB := Lib.hid hb
  clear hi ha hb C
  go_wp2_with fail
  go_ret
  exact ⟨q, c, rfl, HI.out, HA.out, HB.out⟩
end Go.Proofs.YthjhlemdmahlnaaDoor.Stp
