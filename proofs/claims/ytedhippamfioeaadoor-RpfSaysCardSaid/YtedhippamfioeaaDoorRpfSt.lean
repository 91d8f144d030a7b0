/- Package rpf: how all lies in memory while Flood runs. No statement is proved here. -/
import Derived.Test.YtedhippamfioeaaDoorRpfIter
import Derived.Test.YtedhippamfioeaaDoorRpfSend
import Derived.Test.YtedhippamfioeaaDoorRpfHops
namespace Go.Proofs.YtedhippamfioeaaDoor.Rpf
open Go.ChangeShapes Go.WideShapes Go.ChangeAt Go.RowKit Go.Shelf Go.Proofs.YtedhippamfioeaaDoor.Kit Go.Proofs.YtedhippamfioeaaDoor.App Go.Proofs.YtedhippamfioeaaDoor.Cells Go.Proofs.YtedhippamfioeaaDoor.Err Go.Proofs.YtedhippamfioeaaDoor.It Go.Proofs.YtedhippamfioeaaDoor.Vector Go.Proofs.YtedhippamfioeaaDoor.Spf
set_option linter.unusedVariables false
set_option maxRecDepth 20000
set_option maxHeartbeats 1000000

/-- The turn of a block that is no cells leaves this block alone. -/
theorem no_cells {w w' : World} {row : Option Nat} {g : Nat} {o : Obj} (h : w.heap[g]? = some o) (ho : o.isCells = true) (hr : ∀ r, row = some r → ∃ o : Obj, w.heap[r]? = some o ∧ o.isCells = false) : some g ≠ row := fun e => by
  obtain ⟨o', h3, h4⟩ := hr g e.symm
  rw [h] at h3; cases h3; rw [ho] at h4; cases h4
theorem own_cells {w : World} {base : Nat} {v : Value} {l : List Int} (h : OwnI w base v l) : ∀ g, v.ownBlock = some g → ∃ o : Obj, w.heap[g]? = some o ∧ o.isCells = true := fun g hg => by
  obtain ⟨⟨_, ⟨rfl, _⟩ | ⟨g', cap, cur, rfl, _, hh, _⟩⟩, _⟩ := h
  · simp [Value.ownBlock] at hg
  · obtain rfl : g' = g := by simpa [Value.ownBlock] using hg
    exact ⟨_, hh, rfl⟩
theorem qc_cells {w : World} {base : Nat} {v : Value} {l : List Sd} (h : QC layS 52 w base v l) : ∀ g, v.ownBlock = some g → ∃ o : Obj, w.heap[g]? = some o ∧ o.isCells = true := fun g hg => by
  obtain ⟨rfl, _⟩ | ⟨g', off, cap, cur, rfl, _, hh, _⟩ := h
  · simp [Value.ownBlock] at hg
  · obtain rfl : g' = g := by simpa [Value.ownBlock] using hg
    exact ⟨_, hh, rfl⟩
theorem not_own {v : Value} {row : Option Nat} (h : ∀ g, v.ownBlock = some g → some g ≠ row) : v.ownBlock = none ∨ v.ownBlock ≠ row := by
  cases e : v.ownBlock with
  | none => exact .inl rfl
  | some g => exact .inr (h g e)

/-- The blocks: z and z + 1 hold the results, g and gb the first hops, j who is linked, c the counts, b the queue, f the function that sends, x the queue's place. -/
structure Bs where
  (z g gb j c b f x : Nat)
  (cap : Nat)
structure Bs.Ok (B : Bs) : Prop where
  o1 : B.z + 1 < B.g
  o2 : B.g < B.gb
  o3 : B.gb < B.j
  o4 : B.j < B.c
  o5 : B.c < B.b
  o6 : B.b < B.f
  o7 : B.f < B.x
structure St (w : World) (B : Bs) (n : Nat) (ls : List Lk) (s : Nat) (k : Nat) (C : Nat → Nat) (v : Value) (F : List Sd) (W : World) : Prop where
  bel : Below B.z w W
  res : Blk 25 W B.z [.slice (some ⟨B.c, 0, none⟩) n n]
  num : Blk 3 W (B.z + 1) [.int .i64 (k : Int)]
  nxt : Blk 25 W B.gb [.slice (some ⟨B.g, 0, none⟩) n B.cap]
  hop : OwnI W B.z (.slice (some ⟨B.g, 0, none⟩) n B.cap) (rw1 n fun v => hop ls v s)
  jnd : Blk 45 W B.j (jar (jn ls))
  cnt : OwnI W B.z (.slice (some ⟨B.c, 0, none⟩) n n) (cps n C)
  fn : Blk 53 W B.f [.func (.func 18) #[] #[.pointer (some ⟨B.j, 0, none⟩), .pointer (some ⟨B.b, 0, none⟩)]]
  box : Blk 63 W B.x [.pointer (some ⟨B.b, 0, none⟩)]
  q : Qs W B.b v F
  na : ∀ k, v.ownBlock = some k → B.b < k ∧ k ≠ B.f ∧ k ≠ B.x
variable {w W W' : World} {B : Bs} {n s k : Nat} {ls : List Lk} {C : Nat → Nat} {v v' : Value} {F F' : List Sd}
/-- Nothing of it turns. -/
theorem St.grown {row : Option Nat} (h : St w B n ls s k C v F W) (hO : B.Ok) (hz : B.z ≤ w.heap.size) (hg : W.grownBy W' row) (hr : ∀ r, row = some r → (B.z ≤ r) ∧ (r < B.z ∨ B.x < r ∨ ∃ o : Obj, W.heap[r]? = some o ∧ o.isCells = false) ∧ v.ownBlock ≠ some r) : St w B n ls s k C v F W' := by
  have hne : ∀ {g : Nat} {T : TypeId} {l : List Value}, Blk T W g l → B.z ≤ g → g ≤ B.x → some g ≠ row := fun {g T l} hb h1 h2 e => by
    obtain ⟨_, h3 | h3 | ⟨o, h3, h4⟩, _⟩ := hr g e.symm
    · omega
    · omega
    · have : W.heap[g]? = _ := hb
      rw [this] at h3; cases h3; cases h4
  have hne2 : ∀ {u : Value} {l : List Int} {g : Nat}, OwnI W B.z u l → u.ownBlock = some g → B.z ≤ g → g ≤ B.x → some g ≠ row := fun {u l g} hb hu h1 h2 e => by
    obtain ⟨_, h3 | h3 | ⟨o, h3, h4⟩, _⟩ := hr g e.symm
    · omega
    · omega
    · obtain ⟨o', h5, h6⟩ := own_cells hb g hu
      rw [h5] at h3; cases h3; rw [h6] at h4; cases h4
  obtain ⟨o1, o2, o3, o4, o5, o6, o7⟩ := hO
  refine ⟨h.bel.grown hg ?_ (fun r e => (hr r e).1), h.res.more hg (hne h.res (by omega) (by omega)), h.num.more hg (hne h.num (by omega) (by omega)), h.nxt.more hg (hne h.nxt (by omega) (by omega)),
    h.hop.more hg (.inr (hne2 (g := B.g) h.hop rfl (by omega) (by omega))), h.jnd.more hg (hne h.jnd (by omega) (by omega)), h.cnt.more hg (.inr (hne2 (g := B.c) h.cnt rfl (by omega) (by omega))), h.fn.more hg (hne h.fn (by omega) (by omega)), h.box.more hg (hne h.box (by omega) (by omega)),
    h.q.grown hg (hne h.q.blk (by omega) (by omega)) (fun k hk e => (hr k e.symm).2.2 hk), h.na⟩
  have := h.bel.size
  omega
theorem St.abide (hO : B.Ok) (hz : B.z ≤ w.heap.size) (hw : w.heap.size ≤ W.heap.size) (hzz : B.z ≤ W'.heap.size) : Abide W'.heap.size (St w B n ls s k C v F) := fun X Y row h hg hr => by
  refine h.grown hO hz hg (fun r e => ?_)
  obtain ⟨h1, o, h2, h3⟩ := hr r e
  refine ⟨by omega, .inr (.inr ⟨o, h2, h3⟩), fun e2 => ?_⟩
  obtain ⟨o', h4, h5⟩ := qc_cells h.q.own r e2
  rw [h4] at h2; cases h2; rw [h5] at h3; cases h3
/-- The queue turns. -/
theorem St.queue (h : St w B n ls s k C v F W) (hO : B.Ok) (hz : B.z ≤ w.heap.size) (hm : Mv B.b v W v' W') (hq : Qs W' B.b v' F') : St w B n ls s k C v' F' W' := by
  obtain ⟨o1, o2, o3, o4, o5, o6, o7⟩ := hO
  have hk : ∀ {g : Nat} {T : TypeId} {l : List Value}, Blk T W g l → g ≠ B.b → g = B.f ∨ g = B.x ∨ g < B.b → Blk T W' g l := fun {g T l} hb h1 h2 =>
    (hm.block g hb.lt h1 (fun e => by obtain ⟨h3, h4, h5⟩ := h.na g e; omega)).trans hb
  have hi : ∀ {u : Value} {l : List Int} {g : Nat}, OwnI W B.z u l → u.ownBlock = some g → g < B.b → OwnI W' B.z u l := fun {u l g} hb hu h1 => by
    obtain ⟨⟨hl, ⟨rfl, hn⟩ | ⟨g', cap, cur, rfl, hb', hh, rest⟩⟩, hw⟩ := hb
    · simp [Value.ownBlock] at hu
    · obtain rfl : g' = g := by simpa [Value.ownBlock] using hu
      refine ⟨⟨hl, .inr ⟨g', cap, cur, rfl, hb', (hm.block g' (Array.getElem?_eq_some_iff.1 hh).1 (by omega) (fun e => ?_)).trans hh, rest⟩⟩, hw⟩
      obtain ⟨h3, h4, h5⟩ := h.na g' e; omega
  have hxW := h.box.lt
  refine ⟨⟨hm.os.trans h.bel.os, hm.tape.trans h.bel.tape, hm.output.trans h.bel.output, Nat.le_trans h.bel.size hm.size, fun g hg => ?_⟩, hk h.res (by omega) (by omega), hk h.num (by omega) (by omega), hk h.nxt (by omega) (by omega),
    hi (g := B.g) h.hop rfl (by omega), hk h.jnd (by omega) (by omega), hi (g := B.c) h.cnt rfl (by omega), hk h.fn (by omega) (by omega), hk h.box (by omega) (by omega), hq, fun g hg => ?_⟩
  · have hgW : g < W.heap.size := by have := h.bel.size; omega
    exact (hm.block g hgW (by omega) (fun e => by obtain ⟨h3, _⟩ := h.na g e; omega)).trans (h.bel.block g hg)
  · rcases hm.own g hg with h1 | h1
    · exact h.na g h1
    · omega
/-- One more has come in at u. -/
theorem St.come {C' : Nat → Nat} {u : Nat} (h : St w B n ls s k C v F W) (hO : B.Ok) (hz : B.z ≤ w.heap.size) (hu : u < n) (hu64 : C u ≤ 1000) (h1 : C' u = C u + 1) (h2 : ∀ i, i ≠ u → C' i = C i) :
    St w B n ls s (k + 1) C' v F ((W.setCell ⟨B.c, u, none⟩ (.int .i64 (((C u : Nat) : Int) + 1))).setCell ⟨B.z + 1, 0, none⟩ (.int .i64 ((k : Int) + 1))) := by
  have hO' := hO
  obtain ⟨o1, o2, o3, o4, o5, o6, o7⟩ := hO
  have hwf : (Lit.int .i64 (((C u : Nat) : Int) + 1)).wf = true := by simp [Lit.wf, IntKind.min, IntKind.max, IntKind.signed, IntKind.bits]; omega
  have hs1 := set_grown W B.c u (.int .i64 (((C u : Nat) : Int) + 1))
  have hs2 := set_grown (W.setCell ⟨B.c, u, none⟩ (.int .i64 (((C u : Nat) : Int) + 1))) (B.z + 1) 0 (.int .i64 ((k : Int) + 1))
  have hb : ∀ {g : Nat} {T : TypeId} {l : List Value}, Blk T W g l → g ≠ B.c → g ≠ B.z + 1 → Blk T ((W.setCell ⟨B.c, u, none⟩ (.int .i64 (((C u : Nat) : Int) + 1))).setCell ⟨B.z + 1, 0, none⟩ (.int .i64 ((k : Int) + 1))) g l := fun {g T l} hb h3 h4 =>
    (hb.other _ _ _ h3).other _ _ _ h4
  have hzW : B.z ≤ W.heap.size := by have := h.bel.size; omega
  refine ⟨below_set (below_set h.bel _ _ _ (by omega)) _ _ _ (by omega), hb h.res (by omega) (by omega), ?_, hb h.nxt (by omega) (by omega), ?_, hb h.jnd (by omega) (by omega), ?_, hb h.fn (by omega) (by omega), hb h.box (by omega) (by omega), ?_, h.na⟩
  · have h3 := (h.num.other B.c u (.int .i64 (((C u : Nat) : Int) + 1)) (by omega)).set 0 (.int .i64 ((k : Int) + 1))
    exact h3
  · exact (h.hop.more hs1 (.inr (fun e => by simp [Value.ownBlock] at e; omega))).more hs2 (.inr (fun e => by simp [Value.ownBlock] at e; omega))
  · have h3 := own_set h.cnt u (((C u : Nat) : Int) + 1) hwf
    rw [cps_set hu h1 h2] at h3
    exact h3.more hs2 (.inr (fun e => by simp [Value.ownBlock] at e; omega))
  · exact (h.q.grown hs1 (fun e => by injection e with e; omega) (fun g hg e => by injection e with e; have := (h.na g hg).1; omega)).grown hs2 (fun e => by injection e with e; omega) (fun g hg e => by injection e with e; have := (h.na g hg).1; omega)
theorem St.drewN (h : St w B n ls s k C v F W) (m : Nat) : St w B n ls s k C v F (W.drewN m) := ⟨bdrewN h.bel m, h.res, h.num, h.nxt, h.hop, h.jnd, h.cnt, h.fn, h.box, ⟨h.q.blk, h.q.own, h.q.ne⟩, h.na⟩
theorem St.drew (h : St w B n ls s k C v F W) : St w B n ls s k C v F W.drew := ⟨bdrewN h.bel 1, h.res, h.num, h.nxt, h.hop, h.jnd, h.cnt, h.fn, h.box, ⟨h.q.blk, h.q.own, h.q.ne⟩, h.na⟩
end Go.Proofs.YtedhippamfioeaaDoor.Rpf
