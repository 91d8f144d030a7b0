/- Package retry: what Run holds in memory: the stations, who has sent, the slots, who is due. No statement is proved here. -/
import Derived.Test.YteggajhpjdidcaaRetry4
import Derived.Test.YteggajhpjdidcaaTrio
namespace Go.Proofs.Yteggajhpjdidcaa.Retry
open Go.ChangeShapes Go.WideShapes Go.ChangeAt Go.RowKit Go.Proofs.Yteggajhpjdidcaa.Kit Go.Proofs.Yteggajhpjdidcaa.App Go.Proofs.Yteggajhpjdidcaa.Cells Go.Proofs.Yteggajhpjdidcaa.Err Go.Proofs.Yteggajhpjdidcaa.RetryMath
set_option linter.unusedVariables false
set_option maxRecDepth 20000

structure Mem (w0 w : World) (g n c : Nat) (u v x : Value) (A B C : List Int) (L : List S) : Prop where
  t : Trio w0 w u v x A B C
  row : OS w w0.heap.size (.slice (some ⟨g, 0, none⟩) c n) L
  gu : u.ownBlock ≠ some g
  gv : v.ownBlock ≠ some g
  gx : x.ownBlock ≠ some g
variable {w0 w w' : World} {g n c c' : Nat} {u v x u' v' x' : Value} {A B C A' B' C' : List Int} {L L' : List S}
theorem Mem.lt (H : Mem w0 w g n c u v x A B C L) : w0.heap.size ≤ g ∧ g < w.heap.size := by
  have := os_caps H.row
  exact ⟨this.2.2.2.1, this.2.2.2.2⟩
theorem Mem.below (H : Mem w0 w g n c u v x A B C L) (hb : Below w.heap.size w w') : Mem w0 w' g n c u v x A B C L := ⟨H.t.below hb, H.row.below hb, H.gu, H.gv, H.gx⟩
theorem Mem.alloc (H : Mem w0 w g n c u v x A B C L) (o : Obj) : Mem w0 (w.alloc o) g n c u v x A B C L := H.below (balloc (brefl w) o)
theorem Mem.drew (H : Mem w0 w g n c u v x A B C L) : Mem w0 w.drew g n c u v x A B C L := H.below (bdrewN (brefl w) 1)
theorem Mem.free (H : Mem w0 w g n c u v x A B C L) : Mem w0 w g n c u v (.slice none 0 0) A B [] L := ⟨⟨H.t.o1, H.t.o2, OwnI.nil _ _, H.t.a12, Apt.nil _, Apt.nil _, H.t.bel⟩, H.row, H.gu, H.gv, fun h => by simp [Value.ownBlock] at h⟩
theorem Mem.turn (H : Mem w0 w g n c u v x A B C L) (hg : w.grownBy w' (some g)) (ho : OS w' w0.heap.size (.slice (some ⟨g, 0, none⟩) c' n) L') : Mem w0 w' g n c' u v x A B C L' :=
  ⟨⟨H.t.o1.more hg (.inr H.gu), H.t.o2.more hg (.inr H.gv), H.t.o3.more hg (.inr H.gx), H.t.a12, H.t.a13, H.t.a23, gbelow H.t.bel (Nat.le_refl _) hg H.lt.1⟩, ho, H.gu, H.gv, H.gx⟩
/-- A new slice, of a call that turns the stations. -/
theorem Mem.take (H : Mem w0 w g n c u v x A B C L) (hg : w.grownBy w' (some g)) (ho : OS w' w0.heap.size (.slice (some ⟨g, 0, none⟩) c' n) L') (hx : OwnI w' w.heap.size x' C') : Mem w0 w' g n c' u v x' A B C' L' := by
  have h1 := H.turn hg ho
  have hs := H.t.bel.size
  have hap : ∀ (y : Value) (D : List Int), OwnI w w0.heap.size y D → Apt y x' := fun y D hy => Apt.split w.heap.size (fun k hk => (hy.lt k hk).2) (fun k hk => (hx.lt k hk).1)
  exact ⟨⟨h1.t.o1, h1.t.o2, own_mono hx hs, H.t.a12, hap _ _ H.t.o1, hap _ _ H.t.o2, h1.t.bel⟩, ho, H.gu, H.gv, fun e => by
    have h2 := (hx.lt g e).1
    have h3 := H.lt.2
    omega⟩
theorem Mem.app1 (H : Mem w0 w g n c u v x A B C L) (ho : OwnI w' w0.heap.size u' A') (hg : w.grownBy w' u.ownBlock) (hv : u'.ownBlock = u.ownBlock ∨ u'.ownBlock = some w.heap.size) : Mem w0 w' g n c u' v x A' B C L :=
  ⟨H.t.app1 ho hg hv, H.row.more hg (.inr (fun e => H.gu e.symm)), fun e => by
    rcases hv with h | h
    · exact H.gu (h ▸ e)
    · rw [h] at e; injection e with e; have := H.lt.2; omega, H.gv, H.gx⟩
theorem Mem.app2 (H : Mem w0 w g n c u v x A B C L) (ho : OwnI w' w0.heap.size v' B') (hg : w.grownBy w' v.ownBlock) (hv : v'.ownBlock = v.ownBlock ∨ v'.ownBlock = some w.heap.size) : Mem w0 w' g n c u v' x A B' C L :=
  ⟨H.t.app2 ho hg hv, H.row.more hg (.inr (fun e => H.gv e.symm)), H.gu, fun e => by
    rcases hv with h | h
    · exact H.gv (h ▸ e)
    · rw [h] at e; injection e with e; have := H.lt.2; omega, H.gx⟩
theorem Mem.start (hb : Below w0.heap.size w0 w) (ho : OS w w0.heap.size (.slice (some ⟨g, 0, none⟩) c n) L) : Mem w0 w g n c (.slice none 0 0) (.slice none 0 0) (.slice none 0 0) [] [] [] L :=
  ⟨Trio.nil hb, ho, fun h => by simp [Value.ownBlock] at h, fun h => by simp [Value.ownBlock] at h, fun h => by simp [Value.ownBlock] at h⟩
end Go.Proofs.Yteggajhpjdidcaa.Retry
