/- What lies in memory while srep.Run runs: two windows, two maps, two slices of its own, the fate at hand. No statement is proved here. -/
import Derived.Test.YthiebkkfgegebaaSrepI
import Derived.Test.YthiebkkfgegebaaSrepB
import Derived.Test.YthiebkkfgegebaaSrepSpan
import Derived.Test.YthiebkkfgegebaaApt
namespace Go.Proofs.Ythiebkkfgegebaa.Srep
open Go.ChangeShapes Go.WideShapes Go.ChangeAt Go.RowKit Go.Proofs.Ythiebkkfgegebaa.Kit Go.Proofs.Ythiebkkfgegebaa.App Go.Proofs.Ythiebkkfgegebaa.Queue Go.Proofs.Ythiebkkfgegebaa.MapF Go.Proofs.Ythiebkkfgegebaa.SrepMath
set_option linter.unusedVariables false
set_option maxRecDepth 20000

theorem grown_of_below {w w' : World} (hb : Below w.heap.size w w') : w.grownBy w' none := ⟨hb.os, hb.tape, hb.output, hb.size, fun k hk _ => hb.block k hk⟩

structure Full (w0 w : World) (bm br cm cr B W R nr ns rf : Nat) (rh : Nat → Option Int) (sf : Nat) (sh : Nat → Option Bool) (gv : Value) (g : List Int) (qv : Value) (q : List Int) : Prop where
  ord : w0.heap.size ≤ bm ∧ bm < br ∧ br < cm ∧ cm < cr ∧ cr < B ∧ B ≤ w.heap.size
  ri : int.Win w br bm rf W R
  rm : Mp EI w bm nr rh
  si : bool.Win w cr cm sf W R
  sm : Mp EB w cm ns sh
  own : OwnI w B gv g
  que : OwnQ w B qv q
  apt : Apt gv qv
  bel : Below w0.heap.size w0 w

variable {w0 w w' : World} {bm br cm cr B W R nr ns rf : Nat} {rh : Nat → Option Int} {sf : Nat} {sh : Nat → Option Bool} {gv : Value} {g : List Int} {qv : Value} {q : List Int}

theorem Full.mono (H : Full w0 w bm br cm cr B W R nr ns rf rh sf sh gv g qv q) {nr' ns' : Nat} (h1 : nr ≤ nr') (h2 : ns ≤ ns') : Full w0 w bm br cm cr B W R nr' ns' rf rh sf sh gv g qv q :=
  ⟨H.ord, H.ri, H.rm.mono h1, H.si, H.sm.mono h2, H.own, H.que, H.apt, H.bel⟩
theorem bel_grown (H : Full w0 w bm br cm cr B W R nr ns rf rh sf sh gv g qv q) {row : Option Nat} (hg : w.grownBy w' row) (hrow : ∀ k, row = some k → bm ≤ k) : Below w0.heap.size w0 w' :=
  H.bel.grown hg (Nat.le_trans H.bel.size (Nat.le_refl _)) (fun k hk => Nat.le_trans H.ord.1 (hrow k hk))
theorem Full.more (H : Full w0 w bm br cm cr B W R nr ns rf rh sf sh gv g qv q) {row : Option Nat} (hg : w.grownBy w' row) (hrow : ∀ k, row = some k → B ≤ k) (h1 : gv.ownBlock = none ∨ gv.ownBlock ≠ row) (h2 : qv.ownBlock = none ∨ qv.ownBlock ≠ row) :
    Full w0 w' bm br cm cr B W R nr ns rf rh sf sh gv g qv q := by
  obtain ⟨o1, o2, o3, o4, o5, o6⟩ := H.ord
  have hne : ∀ k, k < B → some k ≠ row := fun k hk e => by have := hrow k e.symm; omega
  exact ⟨⟨o1, o2, o3, o4, o5, Nat.le_trans o6 hg.size⟩, H.ri.more hg (hne _ (by omega)), H.rm.kept hg (hne _ (by omega)), H.si.more hg (hne _ (by omega)), H.sm.kept hg (hne _ (by omega)), H.own.more hg h1, H.que.more hg h2, H.apt, bel_grown H hg (fun k hk => by have := hrow k hk; omega)⟩
theorem Full.below (H : Full w0 w bm br cm cr B W R nr ns rf rh sf sh gv g qv q) (hb : Below w.heap.size w w') : Full w0 w' bm br cm cr B W R nr ns rf rh sf sh gv g qv q :=
  H.more (grown_of_below hb) (fun k hk => by cases hk) (by cases gv.ownBlock <;> simp) (by cases qv.ownBlock <;> simp)
theorem Full.alloc (H : Full w0 w bm br cm cr B W R nr ns rf rh sf sh gv g qv q) (o : Obj) : Full w0 (w.alloc o) bm br cm cr B W R nr ns rf rh sf sh gv g qv q := H.below (balloc (brefl w) o)
theorem Full.drewN (H : Full w0 w bm br cm cr B W R nr ns rf rh sf sh gv g qv q) (n : Nat) : Full w0 (w.drewN n) bm br cm cr B W R nr ns rf rh sf sh gv g qv q := H.below (below_drewN (brefl w) n)
theorem Full.drew (H : Full w0 w bm br cm cr B W R nr ns rf rh sf sh gv g qv q) : Full w0 w.drew bm br cm cr B W R nr ns rf rh sf sh gv g qv q := H.below (brefl w).drew
/-- A block below the slices' has turned. -/
theorem Full.far (H : Full w0 w bm br cm cr B W R nr ns rf rh sf sh gv g qv q) {k : Nat} (hk : k < B) (hk0 : bm ≤ k) (hg : w.grownBy w' (some k)) :
    (B ≤ w'.heap.size ∧ OwnI w' B gv g ∧ OwnQ w' B qv q ∧ Below w0.heap.size w0 w') :=
  ⟨Nat.le_trans H.ord.2.2.2.2.2 hg.size, H.own.more hg (own_far H.own.lt hk), H.que.more hg (own_far H.que.lt hk), bel_grown H hg (fun j hj => by injection hj with hj; omega)⟩
theorem Full.put_r (H : Full w0 w bm br cm cr B W R nr ns rf rh sf sh gv g qv q) {rh' : Nat → Option Int} {nr' : Nat} (hm : Mp EI w' bm nr' rh') (hg : w.grownBy w' (some bm)) : Full w0 w' bm br cm cr B W R nr' ns rf rh' sf sh gv g qv q := by
  obtain ⟨o1, o2, o3, o4, o5, o6⟩ := H.ord
  obtain ⟨h1, h2, h3, h4⟩ := H.far (k := bm) (by omega) (by omega) hg
  exact ⟨⟨o1, o2, o3, o4, o5, h1⟩, H.ri.more hg (fun e => by injection e with e; omega), hm, H.si.more hg (fun e => by injection e with e; omega), H.sm.kept hg (fun e => by injection e with e; omega), h2, h3, H.apt, h4⟩
theorem Full.pass_r (H : Full w0 w bm br cm cr B W R nr ns rf rh sf sh gv g qv q) {rf' : Nat} (hm : int.Win w' br bm rf' W R) (hg : w.grownBy w' (some br)) : Full w0 w' bm br cm cr B W R nr ns rf' rh sf sh gv g qv q := by
  obtain ⟨o1, o2, o3, o4, o5, o6⟩ := H.ord
  obtain ⟨h1, h2, h3, h4⟩ := H.far (k := br) (by omega) (by omega) hg
  exact ⟨⟨o1, o2, o3, o4, o5, h1⟩, hm, H.rm.kept hg (fun e => by injection e with e; omega), H.si.more hg (fun e => by injection e with e; omega), H.sm.kept hg (fun e => by injection e with e; omega), h2, h3, H.apt, h4⟩
theorem Full.put_s (H : Full w0 w bm br cm cr B W R nr ns rf rh sf sh gv g qv q) {sh' : Nat → Option Bool} {ns' : Nat} (hm : Mp EB w' cm ns' sh') (hg : w.grownBy w' (some cm)) : Full w0 w' bm br cm cr B W R nr ns' rf rh sf sh' gv g qv q := by
  obtain ⟨o1, o2, o3, o4, o5, o6⟩ := H.ord
  obtain ⟨h1, h2, h3, h4⟩ := H.far (k := cm) (by omega) (by omega) hg
  exact ⟨⟨o1, o2, o3, o4, o5, h1⟩, H.ri.more hg (fun e => by injection e with e; omega), H.rm.kept hg (fun e => by injection e with e; omega), H.si.more hg (fun e => by injection e with e; omega), hm, h2, h3, H.apt, h4⟩
theorem Full.pass_s (H : Full w0 w bm br cm cr B W R nr ns rf rh sf sh gv g qv q) {sf' : Nat} (hm : bool.Win w' cr cm sf' W R) (hg : w.grownBy w' (some cr)) : Full w0 w' bm br cm cr B W R nr ns rf rh sf' sh gv g qv q := by
  obtain ⟨o1, o2, o3, o4, o5, o6⟩ := H.ord
  obtain ⟨h1, h2, h3, h4⟩ := H.far (k := cr) (by omega) (by omega) hg
  exact ⟨⟨o1, o2, o3, o4, o5, h1⟩, H.ri.more hg (fun e => by injection e with e; omega), H.rm.kept hg (fun e => by injection e with e; omega), hm, H.sm.kept hg (fun e => by injection e with e; omega), h2, h3, H.apt, h4⟩
theorem row_far {v : Value} {B N k : Nat} (h : ∀ j, v.ownBlock = some j → B ≤ j ∧ j < N) (hk : k < B) : some k ≠ v.ownBlock := fun e => by have := (h k e.symm).1; omega
theorem Full.app_g (H : Full w0 w bm br cm cr B W R nr ns rf rh sf sh gv g qv q) {gv' : Value} {g' : List Int} (ho : OwnI w' B gv' g') (hg : w.grownBy w' gv.ownBlock) (hat : gv'.ownBlock = gv.ownBlock ∨ gv'.ownBlock = some w.heap.size) : Full w0 w' bm br cm cr B W R nr ns rf rh sf sh gv' g' qv q := by
  obtain ⟨o1, o2, o3, o4, o5, o6⟩ := H.ord
  exact ⟨⟨o1, o2, o3, o4, o5, Nat.le_trans o6 hg.size⟩, H.ri.more hg (row_far H.own.lt (by omega)), H.rm.kept hg (row_far H.own.lt (by omega)), H.si.more hg (row_far H.own.lt (by omega)), H.sm.kept hg (row_far H.own.lt (by omega)), ho, H.que.more hg H.apt.symm.ne, (H.apt.symm.grow (fun k hk => (H.que.lt k hk).2) (Nat.le_refl _) hat).symm, bel_grown H hg (fun k hk => by have := (H.own.lt k hk).1; omega)⟩
theorem Full.app_q (H : Full w0 w bm br cm cr B W R nr ns rf rh sf sh gv g qv q) {qv' : Value} {q' : List Int} (ho : OwnQ w' B qv' q') (hg : w.grownBy w' qv.ownBlock) (hat : qv'.ownBlock = qv.ownBlock ∨ qv'.ownBlock = some w.heap.size) : Full w0 w' bm br cm cr B W R nr ns rf rh sf sh gv g qv' q' := by
  obtain ⟨o1, o2, o3, o4, o5, o6⟩ := H.ord
  exact ⟨⟨o1, o2, o3, o4, o5, Nat.le_trans o6 hg.size⟩, H.ri.more hg (row_far H.que.lt (by omega)), H.rm.kept hg (row_far H.que.lt (by omega)), H.si.more hg (row_far H.que.lt (by omega)), H.sm.kept hg (row_far H.que.lt (by omega)), H.own.more hg H.apt.ne, ho, H.apt.grow (fun k hk => (H.own.lt k hk).2) (Nat.le_refl _) hat, bel_grown H hg (fun k hk => by have := (H.que.lt k hk).1; omega)⟩
theorem Full.tail {x : Int} (H : Full w0 w bm br cm cr B W R nr ns rf rh sf sh gv g qv (x :: q)) {qv' : Value} (hb : qv'.ownBlock = qv.ownBlock) (ht : ∀ w', (∀ g, qv.ownBlock = some g → w'.heap[g]? = w.heap[g]?) → OwnQ w' B qv' q) : Full w0 w bm br cm cr B W R nr ns rf rh sf sh gv g qv' q :=
  ⟨H.ord, H.ri, H.rm, H.si, H.sm, H.own, ht w (fun _ _ => rfl), fun k h1 h2 => H.apt k h1 (by rw [← hb]; exact h2), H.bel⟩

/-- .. and the fate at hand in block bf. -/
structure Rnd (w0 w : World) (bm br cm cr B bf : Nat) (x1 x2 : Bool) (W R nr ns rf : Nat) (rh : Nat → Option Int) (sf : Nat) (sh : Nat → Option Bool) (gv : Value) (g : List Int) (qv : Value) (q : List Int) : Prop where
  full : Full w0 w bm br cm cr B W R nr ns rf rh sf sh gv g qv q
  lo : B ≤ bf
  box : w.heap[bf]? = some (.cells #[.bool x1, .bool x2] 32)
  gf : gv.ownBlock ≠ some bf
  qf : qv.ownBlock ≠ some bf

variable {bf : Nat} {x1 x2 : Bool}
theorem Rnd.lt (H : Rnd w0 w bm br cm cr B bf x1 x2 W R nr ns rf rh sf sh gv g qv q) : bf < w.heap.size := (Array.getElem?_eq_some_iff.1 H.box).1
theorem Full.rnd (H : Full w0 w bm br cm cr B W R nr ns rf rh sf sh gv g qv q) (x1 x2 : Bool) : Rnd w0 (w.alloc (.cells #[.bool x1, .bool x2] 32)) bm br cm cr B w.heap.size x1 x2 W R nr ns rf rh sf sh gv g qv q :=
  ⟨H.alloc _, H.ord.2.2.2.2.2, alloc_new w _, fun e => by have := (H.own.lt _ e).2; omega, fun e => by have := (H.que.lt _ e).2; omega⟩
theorem Rnd.cells (H : Rnd w0 w bm br cm cr B bf x1 x2 W R nr ns rf rh sf sh gv g qv q) : w.cell? ⟨bf, 0, none⟩ = some (.bool x1) ∧ w.cell? ⟨bf, 1, none⟩ = some (.bool x2) := by
  constructor <;> (unfold World.cell?; rw [H.box]; rfl)
theorem Rnd.below (H : Rnd w0 w bm br cm cr B bf x1 x2 W R nr ns rf rh sf sh gv g qv q) (hb : Below w.heap.size w w') : Rnd w0 w' bm br cm cr B bf x1 x2 W R nr ns rf rh sf sh gv g qv q :=
  ⟨H.full.below hb, H.lo, (hb.block _ H.lt).trans H.box, H.gf, H.qf⟩
theorem Rnd.alloc (H : Rnd w0 w bm br cm cr B bf x1 x2 W R nr ns rf rh sf sh gv g qv q) (o : Obj) : Rnd w0 (w.alloc o) bm br cm cr B bf x1 x2 W R nr ns rf rh sf sh gv g qv q := H.below (balloc (brefl w) o)
theorem Rnd.drewN (H : Rnd w0 w bm br cm cr B bf x1 x2 W R nr ns rf rh sf sh gv g qv q) (n : Nat) : Rnd w0 (w.drewN n) bm br cm cr B bf x1 x2 W R nr ns rf rh sf sh gv g qv q := H.below (below_drewN (brefl w) n)
theorem Rnd.drew (H : Rnd w0 w bm br cm cr B bf x1 x2 W R nr ns rf rh sf sh gv g qv q) : Rnd w0 w.drew bm br cm cr B bf x1 x2 W R nr ns rf rh sf sh gv g qv q := H.below (brefl w).drew
theorem Rnd.tail {x : Int} (H : Rnd w0 w bm br cm cr B bf x1 x2 W R nr ns rf rh sf sh gv g qv (x :: q)) {qv' : Value} (hb : qv'.ownBlock = qv.ownBlock) (ht : ∀ w', (∀ g, qv.ownBlock = some g → w'.heap[g]? = w.heap[g]?) → OwnQ w' B qv' q) : Rnd w0 w bm br cm cr B bf x1 x2 W R nr ns rf rh sf sh gv g qv' q :=
  ⟨H.full.tail hb ht, H.lo, H.box, H.gf, by rw [hb]; exact H.qf⟩
theorem Rnd.box_keep (H : Rnd w0 w bm br cm cr B bf x1 x2 W R nr ns rf rh sf sh gv g qv q) {k : Nat} (hk : k < B) (hg : w.grownBy w' (some k)) : w'.heap[bf]? = some (.cells #[.bool x1, .bool x2] 32) :=
  (hg.block bf H.lt (fun e => by injection e with e; have := H.lo; omega)).trans H.box
theorem Rnd.put_r (H : Rnd w0 w bm br cm cr B bf x1 x2 W R nr ns rf rh sf sh gv g qv q) {rh' : Nat → Option Int} {nr' : Nat} (hm : Mp EI w' bm nr' rh') (hg : w.grownBy w' (some bm)) : Rnd w0 w' bm br cm cr B bf x1 x2 W R nr' ns rf rh' sf sh gv g qv q :=
  ⟨H.full.put_r hm hg, H.lo, H.box_keep (by have := H.full.ord; omega) hg, H.gf, H.qf⟩
theorem Rnd.pass_r (H : Rnd w0 w bm br cm cr B bf x1 x2 W R nr ns rf rh sf sh gv g qv q) {rf' : Nat} (hm : int.Win w' br bm rf' W R) (hg : w.grownBy w' (some br)) : Rnd w0 w' bm br cm cr B bf x1 x2 W R nr ns rf' rh sf sh gv g qv q :=
  ⟨H.full.pass_r hm hg, H.lo, H.box_keep (by have := H.full.ord; omega) hg, H.gf, H.qf⟩
theorem Rnd.put_s (H : Rnd w0 w bm br cm cr B bf x1 x2 W R nr ns rf rh sf sh gv g qv q) {sh' : Nat → Option Bool} {ns' : Nat} (hm : Mp EB w' cm ns' sh') (hg : w.grownBy w' (some cm)) : Rnd w0 w' bm br cm cr B bf x1 x2 W R nr ns' rf rh sf sh' gv g qv q :=
  ⟨H.full.put_s hm hg, H.lo, H.box_keep (by have := H.full.ord; omega) hg, H.gf, H.qf⟩
theorem Rnd.pass_s (H : Rnd w0 w bm br cm cr B bf x1 x2 W R nr ns rf rh sf sh gv g qv q) {sf' : Nat} (hm : bool.Win w' cr cm sf' W R) (hg : w.grownBy w' (some cr)) : Rnd w0 w' bm br cm cr B bf x1 x2 W R nr ns rf rh sf' sh gv g qv q :=
  ⟨H.full.pass_s hm hg, H.lo, H.box_keep (by have := H.full.ord; omega) hg, H.gf, H.qf⟩
theorem Rnd.app_g (H : Rnd w0 w bm br cm cr B bf x1 x2 W R nr ns rf rh sf sh gv g qv q) {gv' : Value} {g' : List Int} (ho : OwnI w' B gv' g') (hg : w.grownBy w' gv.ownBlock) (hat : gv'.ownBlock = gv.ownBlock ∨ gv'.ownBlock = some w.heap.size) : Rnd w0 w' bm br cm cr B bf x1 x2 W R nr ns rf rh sf sh gv' g' qv q :=
  ⟨H.full.app_g ho hg hat, H.lo, (hg.block bf H.lt (Ne.symm H.gf)).trans H.box, fun e => by
    rcases hat with h | h
    · exact H.gf (by rw [← h]; exact e)
    · rw [h] at e; injection e with e; have := H.lt; omega, H.qf⟩
theorem Rnd.app_q (H : Rnd w0 w bm br cm cr B bf x1 x2 W R nr ns rf rh sf sh gv g qv q) {qv' : Value} {q' : List Int} (ho : OwnQ w' B qv' q') (hg : w.grownBy w' qv.ownBlock) (hat : qv'.ownBlock = qv.ownBlock ∨ qv'.ownBlock = some w.heap.size) : Rnd w0 w' bm br cm cr B bf x1 x2 W R nr ns rf rh sf sh gv g qv' q' :=
  ⟨H.full.app_q ho hg hat, H.lo, (hg.block bf H.lt (Ne.symm H.qf)).trans H.box, H.gf, fun e => by
    rcases hat with h | h
    · exact H.qf (by rw [← h]; exact e)
    · rw [h] at e; injection e with e; have := H.lt; omega⟩

theorem Rnd.look (H : Rnd w0 w bm br cm cr B bf x1 x2 W R nr ns rf rh sf sh gv g qv q) {y : Nat} (hy : y ≤ 1000000) {b : Bool} (hb : (sh y).getD false = b) : ∀ k, (Instr.lookup 48 (.map (some cm)) (.int .i64 (y : Int)) false).run Try.prog (w.drewN k) = .ok (.bool b) (w.drewN k) :=
  fun k => by rw [← hb]; exact (H.drewN k).full.sm.look hy
theorem Rnd.look0 (H : Rnd w0 w bm br cm cr B bf x1 x2 W R nr ns rf rh sf sh gv g qv q) {y : Nat} (hy : y ≤ 1000000) {b : Bool} (hb : (sh y).getD false = b) : (Instr.lookup 48 (.map (some cm)) (.int .i64 (y : Int)) false).run Try.prog w = .ok (.bool b) w := by
  rw [← hb]; exact H.full.sm.look hy
/-- 'm[k] = v' at the operation. -/
theorem wp_put {α : Type} {E : Elem α} {w : World} {ops : Array Oper} {rest : List Oper} {o : Oper} {a : Act} {Q : Exit → Act → World → Prop} (hgd : o.guard = none) (m k x : Operand) (ho : o.op = .mapUpdate E.m m k x)
    {b n : Nat} {h : Nat → Option α} (H : Mp E w b n h) (hn : n ≤ 1000000) (j : Nat) (hj : j ≤ 1000000) (y : α) (hy : E.ok y) (e1 : a.eval m = .map (some b)) (e2 : a.eval k = .int .i64 (j : Int)) (e3 : a.eval x = E.enc y)
    (hk : ∀ w', Mp E w' b (n + 1) (upd h j y) → w.grownBy w' (some b) → wpList Try.prog ops Q rest (a.put o.dst undef) w') :
    wpList Try.prog ops Q (o :: rest) a w := by
  refine wpList_plain hgd fun _ hK => ?_
  obtain ⟨w', hrun, h2, h3⟩ := H.store hj hn y hy
  unfold Oper.wp execOp
  simp only [ho, Sem.run_bind, Sem.run_pure, Result.andThen_ok, e1, e2, e3, hrun]
  exact hK _ _ (hk w' h2 h3)
end Go.Proofs.Ythiebkkfgegebaa.Srep
