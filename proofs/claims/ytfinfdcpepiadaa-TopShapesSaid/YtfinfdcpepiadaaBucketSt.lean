/- A bucket and two slices of the law's own, in memory. No statement is proved here. -/
import Derived.Test.YtfinfdcpepiadaaBucketLaw
import Derived.Test.YtfinfdcpepiadaaApt
namespace Go.Proofs.Ytfinfdcpepiadaa.Bucket
open Go.ChangeShapes Go.WideShapes Go.ChangeAt Go.RowKit Go.Proofs.Ytfinfdcpepiadaa.Kit Go.Proofs.Ytfinfdcpepiadaa.App Go.Proofs.Ytfinfdcpepiadaa.Err
set_option linter.unusedVariables false
set_option maxRecDepth 20000

structure Mem (w0 w : World) (B g : Nat) (r d h t : Int) (A M : List Int) (v1 v2 : Value) : Prop where
  bkt : Bkt w g r d h t
  o1 : OwnI w B v1 A
  o2 : OwnI w B v2 M
  apt : Apt v1 v2
  bel : Below w0.heap.size w0 w
  siz : B ≤ w.heap.size
  low : w0.heap.size ≤ g
  up : g < B
variable {w0 w w' : World} {B g : Nat} {r d h t h' t' : Int} {A M : List Int} {v1 v2 v' : Value}
theorem own_ne {v : Value} {l : List Int} (ho : OwnI w B v l) (hg : g < B) : v.ownBlock = none ∨ v.ownBlock ≠ some g := by
  cases hv : v.ownBlock with
  | none => exact .inl rfl
  | some k => exact .inr (fun e => by have := (ho.lt k hv).1; injection e with e; omega)
theorem ne_own {v : Value} {l : List Int} (ho : OwnI w B v l) (hg : g < B) : some g ≠ v.ownBlock := fun e => by have := (ho.lt g e.symm).1; omega
theorem below_own {v : Value} {l : List Int} (hb : Below w0.heap.size w0 w) (ho : OwnI w B v l) (hB : w0.heap.size ≤ B) (hg : w.grownBy w' v.ownBlock) : Below w0.heap.size w0 w' :=
  hb.grown hg hb.size (fun k hk => Nat.le_trans hB (ho.lt k hk).1)
theorem Mem.drewN (H : Mem w0 w B g r d h t A M v1 v2) (n : Nat) : Mem w0 (w.drewN n) B g r d h t A M v1 v2 :=
  ⟨H.bkt, H.o1, H.o2, H.apt, below_drewN H.bel n, H.siz, H.low, H.up⟩
theorem Mem.call (H : Mem w0 w B g r d h t A M v1 v2) (hb : Bkt w' g r d h' t') (hg : w.grownBy w' (some g)) : Mem w0 w' B g r d h' t' A M v1 v2 :=
  ⟨hb, H.o1.more hg (own_ne H.o1 H.up), H.o2.more hg (own_ne H.o2 H.up), H.apt, gbelow H.bel (Nat.le_refl _) hg H.low, Nat.le_trans H.siz hg.size, H.low, H.up⟩
theorem Mem.alloc (H : Mem w0 w B g r d h t A M v1 v2) (o : Obj) : Mem w0 (w.alloc o) B g r d h t A M v1 v2 :=
  ⟨H.bkt.alloc o, H.o1.alloc o, H.o2.alloc o, H.apt, H.bel.alloc H.bel.size o, Nat.le_trans H.siz (by simp), H.low, H.up⟩
theorem Mem.app1 {l : List Int} (H : Mem w0 w B g r d h t A M v1 v2) (ho : OwnI w' B v' l) (hg : w.grownBy w' v1.ownBlock) (hv : v'.ownBlock = v1.ownBlock ∨ v'.ownBlock = some w.heap.size) : Mem w0 w' B g r d h t l M v' v2 :=
  ⟨H.bkt.more hg (ne_own H.o1 H.up), ho, H.o2.more hg H.apt.symm.ne, (H.apt.symm.grow (fun k hk => (H.o2.lt k hk).2) (Nat.le_refl _) hv).symm, below_own H.bel H.o1 (Nat.le_trans H.low (Nat.le_of_lt H.up)) hg, Nat.le_trans H.siz hg.size, H.low, H.up⟩
theorem Mem.app2 {l : List Int} (H : Mem w0 w B g r d h t A M v1 v2) (ho : OwnI w' B v' l) (hg : w.grownBy w' v2.ownBlock) (hv : v'.ownBlock = v2.ownBlock ∨ v'.ownBlock = some w.heap.size) : Mem w0 w' B g r d h t A l v1 v' :=
  ⟨H.bkt.more hg (ne_own H.o2 H.up), H.o1.more hg H.apt.ne, ho, H.apt.grow (fun k hk => (H.o1.lt k hk).2) (Nat.le_refl _) hv, below_own H.bel H.o2 (Nat.le_trans H.low (Nat.le_of_lt H.up)) hg, Nat.le_trans H.siz hg.size, H.low, H.up⟩
theorem Mem.new (hb : Bkt w g r d h t) (hB : Below w0.heap.size w0 w) (hg : w0.heap.size ≤ g) : Mem w0 w w.heap.size g r d h t [] [] (.slice none 0 0) (.slice none 0 0) :=
  ⟨hb, OwnI.nil _ _, OwnI.nil _ _, Apt.nil _, hB, Nat.le_refl _, hg, hb.lt⟩
theorem cell_ints {b off cap : Nat} {l : List Int} (hi : Ints w (some ⟨b, off, none⟩) cap l) (j : Nat) (hj : j < l.length) : w.cell? ⟨b, off + j, none⟩ = some (.int .i64 (l[j]?.getD 0)) := by
  obtain ⟨b', off', e, _, hc⟩ := hi.2.2.2 (by omega)
  injection e with e
  injection e with e1 e2
  subst e1 e2
  exact hc j hj
theorem some_ints {p : Option Addr} {cap : Nat} {l : List Int} (hi : Ints w p cap l) (h0 : 0 < l.length) : ∃ b off, p = some ⟨b, off, none⟩ := by
  obtain ⟨b, off, e, _, _⟩ := hi.2.2.2 h0
  exact ⟨b, off, e⟩
theorem prod_both {r m M : Int} (h1 : 0 ≤ r) (h2 : r ≤ 20) (h3 : -M ≤ m) (h4 : m ≤ M) : -(20 * M) ≤ r * m ∧ r * m ≤ 20 * M := by
  rcases Int.le_total 0 m with h | h
  · obtain ⟨a, b⟩ := prod_in h1 h2 h h4
    omega
  · obtain ⟨a, b⟩ := prod_in (m := -m) h1 h2 (by omega) (M := M) (by omega)
    rw [Int.mul_neg] at a b
    omega
end Go.Proofs.Ytfinfdcpepiadaa.Bucket
