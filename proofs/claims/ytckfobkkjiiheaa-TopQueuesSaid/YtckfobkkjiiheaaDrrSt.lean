/- How the round, its queues and what is served lie in memory while drr.Run runs. No statement is proved here. -/
import Derived.Test.YtckfobkkjiiheaaDrr1
import Derived.Test.YtckfobkkjiiheaaQueue
import Derived.Test.YtckfobkkjiiheaaQueueC
import Derived.Test.YtckfobkkjiiheaaBlk
namespace Go.Proofs.Ytckfobkkjiiheaa.Drr
open Go.ChangeShapes Go.WideShapes Go.ChangeAt Go.RowKit Go.Proofs.Ytckfobkkjiiheaa.Kit Go.Proofs.Ytckfobkkjiiheaa.App Go.Proofs.Ytckfobkkjiiheaa.Err Go.Proofs.Ytckfobkkjiiheaa.Cells Go.Proofs.Ytckfobkkjiiheaa.Queue
set_option linter.unusedVariables false
set_option maxRecDepth 20000

/-- Pointers to blocks. -/
def layP : Lay Nat := ⟨fun x => [.pointer (some ⟨x, 0, none⟩)], 1, by decide, fun _ => rfl, fun x v hv => by
  simp only [List.mem_cons, List.not_mem_nil, or_false] at hv
  subst hv; rfl⟩
theorem tyP : Ty layP 62 48 8 := ⟨Try.underlying62, by
  have h : (Try.prog.info? 48).map (fun i => (i.zero, i.size, i.bytes)) = some (some (.pointer none), 1, 8) := by kernel_rfl
  obtain ⟨i, hi, hz⟩ := Option.map_eq_some_iff.1 h
  simp only [Prod.mk.injEq] at hz
  exact ⟨i, _, hi, hz.1, hz.2.1, hz.2.2, rfl⟩, by decide⟩
theorem elP : Try.prog.elem 62 = 48 := by kernel_rfl

/-- Memory but for the blocks S. -/
structure Chg (S : Nat → Prop) (w w' : World) : Prop where
  os : w'.os = w.os
  tape : w'.tape = w.tape
  output : w'.output = w.output
  size : w.heap.size ≤ w'.heap.size
  block : ∀ k, k < w.heap.size → ¬ S k → w'.heap[k]? = w.heap[k]?
variable {S : Nat → Prop} {w0 w w' w1 : World}
theorem Chg.of_grown {row : Option Nat} (h : w.grownBy w' row) (hS : ∀ k, row = some k → S k) : Chg S w w' := ⟨h.os, h.tape, h.output, h.size, fun k hk hs => h.block k hk (fun e => hs (hS k e.symm))⟩
theorem Chg.trans (h : Chg S w w1) (h' : Chg S w1 w') : Chg S w w' := ⟨h'.os.trans h.os, h'.tape.trans h.tape, h'.output.trans h.output, Nat.le_trans h.size h'.size, fun k hk hs => (h'.block k (Nat.lt_of_lt_of_le hk h.size) hs).trans (h.block k hk hs)⟩
theorem Chg.below (h : Chg S w w') (hb : Below w0.heap.size w0 w) (hS : ∀ k, S k → w0.heap.size ≤ k) : Below w0.heap.size w0 w' :=
  ⟨h.os.trans hb.os, h.tape.trans hb.tape, h.output.trans hb.output, Nat.le_trans hb.size h.size, fun k hk => (h.block k (Nat.lt_of_lt_of_le hk hb.size) (fun hs => by have := hS k hs; omega)).trans (hb.block k hk)⟩
theorem blk_chg {T : TypeId} {g : Nat} {l : List Value} (h : Blk T w g l) (hc : Chg S w w') (hg : ¬ S g) : Blk T w' g l := (hc.block g h.lt hg).trans h
theorem ownQ_chg {base : Nat} {v : Value} {l : List Int} (h : OwnQ w base v l) (hc : Chg S w w') (hg : ∀ k, v.ownBlock = some k → ¬ S k) : OwnQ w' base v l := by
  have hlt := h.lt
  obtain ⟨hw, ⟨rfl, rfl⟩ | ⟨g, off, cap, cur, rfl, hb, hh, hnc, hcm, hcs, ht⟩⟩ := h
  · exact OwnQ.nil _ _
  · exact ⟨hw, .inr ⟨g, off, cap, cur, rfl, hb, (hc.block g (hlt g rfl).2 (hg g rfl)).trans hh, hnc, hcm, hcs, ht⟩⟩
theorem ownI_chg {base : Nat} {v : Value} {l : List Int} (h : OwnI w base v l) (hc : Chg S w w') (hg : ∀ k, v.ownBlock = some k → ¬ S k) : OwnI w' base v l := by
  obtain ⟨⟨hl, ⟨rfl, hn⟩ | ⟨g, cap, cur, rfl, hb, hh, rest⟩⟩, hw⟩ := h
  · exact ⟨⟨hl, .inl ⟨rfl, hn⟩⟩, hw⟩
  · exact ⟨⟨hl, .inr ⟨g, cap, cur, rfl, hb, (hc.block g (Array.getElem?_eq_some_iff.1 hh).1 (hg g rfl)).trans hh, rest⟩⟩, hw⟩
theorem qc_chg {τ : Type} {L : Lay τ} {e : TypeId} {base : Nat} {v : Value} {l : List τ} (h : QC L e w base v l) (hc : Chg S w w') (hg : ∀ k, v.ownBlock = some k → ¬ S k) : QC L e w' base v l :=
  h.same (fun k hk => hc.block k (h.lt k hk).2 (hg k hk))

/-- A queue in memory: its block, the slice of what waits, what it is. -/
structure Fl where
  b : Nat
  v : Value
  f : F
def Fl.cells (x : Fl) : List Value := [.int .i64 (x.f.num : Int), x.v, .int .i64 x.f.cnt]
structure FlOk (w : World) (base : Nat) (x : Fl) : Prop where
  blk : Blk 54 w x.b x.cells
  own : OwnQ w base x.v x.f.rest
  lo : base ≤ x.b
theorem FlOk.chg {base : Nat} {x : Fl} (h : FlOk w base x) (hc : Chg S w w') (h1 : ¬ S x.b) (h2 : ∀ k, x.v.ownBlock = some k → ¬ S k) : FlOk w' base x :=
  ⟨blk_chg h.blk hc h1, ownQ_chg h.own hc h2, h.lo⟩

/-- All of it: the round in block r, its slice q; what is served so far, the slice o; the queues out of the round, and those in it. -/
structure St (w0 w : World) (r : Nat) (q o : Value) (ex qs : List Fl) (out : List Int) : Prop where
  blk : Blk 64 w r [q]
  que : QC layP 48 w w0.heap.size q (qs.map Fl.b)
  own : OwnI w w0.heap.size o out
  fl : ∀ x ∈ ex ++ qs, FlOk w w0.heap.size x
  lo : w0.heap.size ≤ r
  nd : ((ex ++ qs).map Fl.b).Nodup
  rol : ∃ ρ : Nat → Nat, ρ r = 0 ∧ (∀ k, q.ownBlock = some k → ρ k = 1) ∧ (∀ k, o.ownBlock = some k → ρ k = 2) ∧ ∀ x ∈ ex ++ qs, ρ x.b = 3 ∧ ∀ k, x.v.ownBlock = some k → ρ k = 4
  bel : Below w0.heap.size w0 w
  siz : w0.heap.size ≤ w.heap.size
variable {r : Nat} {q q' o o' : Value} {ex ex' qs qs' : List Fl} {out out' : List Int} {x x' : Fl}
theorem St.chg (H : St w0 w r q o ex qs out) (hc : Chg (fun _ => False) w w') : St w0 w' r q o ex qs out :=
  ⟨blk_chg H.blk hc id, qc_chg H.que hc (fun _ _ => id), ownI_chg H.own hc (fun _ _ => id), fun x hx => (H.fl x hx).chg hc id (fun _ _ => id), H.lo, H.nd, H.rol, hc.below H.bel (fun _ h => h.elim), Nat.le_trans H.siz hc.size⟩
theorem St.below (H : St w0 w r q o ex qs out) (hb : Below w.heap.size w w') : St w0 w' r q o ex qs out :=
  H.chg ⟨hb.os, hb.tape, hb.output, hb.size, fun k hk _ => hb.block k hk⟩
theorem St.alloc (H : St w0 w r q o ex qs out) (ob : Obj) : St w0 (w.alloc ob) r q o ex qs out := H.below (balloc (brefl w) ob)
theorem St.drewN (H : St w0 w r q o ex qs out) (n : Nat) : St w0 (w.drewN n) r q o ex qs out := H.below (bdrewN (brefl w) n)
/-- Roles of blocks: those from N on have the role c. -/
def upR (ρ : Nat → Nat) (N c k : Nat) : Nat := if k < N then ρ k else c
theorem upR_old {ρ : Nat → Nat} {N c k : Nat} (h : k < N) : upR ρ N c k = ρ k := if_pos h
theorem upR_new {ρ : Nat → Nat} {N c k : Nat} (h : N ≤ k) : upR ρ N c k = c := if_neg (by omega)
/-- The round is written: what stands in it is what stood in it or out of it. -/
theorem St.round (H : St w0 w r q o ex qs out) (hc : Chg (fun k => k = r ∨ q.ownBlock = some k) w w') (hb : Blk 64 w' r [q']) (hq : QC layP 48 w' w0.heap.size q' (qs'.map Fl.b))
    (hk : ∀ k, q'.ownBlock = some k → q.ownBlock = some k ∨ w.heap.size ≤ k) (hm : ∀ x ∈ ex' ++ qs', x ∈ ex ++ qs) (hn : ((ex' ++ qs').map Fl.b).Nodup) : St w0 w' r q' o ex' qs' out := by
  obtain ⟨ρ, r0, r1, r2, r3⟩ := H.rol
  have hlt := H.blk.lt
  have hno : ∀ k, ρ k ≠ 0 → ρ k ≠ 1 → ¬ (k = r ∨ q.ownBlock = some k) := fun k h0 h1 h => by
    rcases h with rfl | h
    · exact h0 r0
    · exact h1 (r1 k h)
  have hl : ∀ x ∈ ex ++ qs, x.b < w.heap.size ∧ ∀ k, x.v.ownBlock = some k → k < w.heap.size := fun x hx => ⟨(H.fl x hx).blk.lt, fun k hk => ((H.fl x hx).own.lt k hk).2⟩
  refine ⟨hb, hq, ownI_chg H.own hc (fun k hk => hno k (by rw [r2 k hk]; decide) (by rw [r2 k hk]; decide)), fun x hx => ?_, H.lo, hn, ⟨upR ρ w.heap.size 1, by rw [upR_old hlt]; exact r0, fun k h => ?_, fun k h => ?_, fun x hx => ?_⟩, hc.below H.bel (fun k h => ?_), Nat.le_trans H.siz hc.size⟩
  · have := r3 x (hm x hx)
    exact (H.fl x (hm x hx)).chg hc (hno _ (by rw [this.1]; decide) (by rw [this.1]; decide)) (fun k hk => hno k (by rw [this.2 k hk]; decide) (by rw [this.2 k hk]; decide))
  · rcases hk k h with h | h
    · rw [upR_old (H.que.lt k h).2]; exact r1 k h
    · rw [upR_new (by omega)]
  · rw [upR_old (H.own.lt k h).2]; exact r2 k h
  · have h1 := r3 x (hm x hx)
    have h2 := hl x (hm x hx)
    exact ⟨by rw [upR_old h2.1]; exact h1.1, fun k hk => by rw [upR_old (h2.2 k hk)]; exact h1.2 k hk⟩
  · rcases h with rfl | h
    · exact H.lo
    · exact (H.que.lt k h).1
/-- A queue out of the round is written. -/
theorem St.flow (H : St w0 w r q o (x :: ex) qs out) (hg : w.grownBy w' (some x.b)) (hf : FlOk w' w0.heap.size x') (hb : x'.b = x.b) (hk : ∀ k, x'.v.ownBlock = some k → x.v.ownBlock = some k ∨ w.heap.size ≤ k) : St w0 w' r q o (x' :: ex) qs out := by
  obtain ⟨ρ, r0, r1, r2, r3⟩ := H.rol
  have hx := r3 x (by simp)
  have hc : Chg (fun k => k = x.b) w w' := Chg.of_grown hg (fun k e => by injection e with e; exact e.symm)
  have hno : ∀ k, ρ k ≠ 3 → ¬ k = x.b := fun k h e => h (by rw [e]; exact hx.1)
  have hnd := H.nd
  rw [List.cons_append, List.map_cons, List.nodup_cons] at hnd
  have hne : ∀ y ∈ ex ++ qs, ¬ y.b = x.b := fun y hy e => hnd.1 (by rw [← e]; exact List.mem_map_of_mem hy)
  have hl : ∀ y ∈ (x :: ex) ++ qs, y.b < w.heap.size ∧ ∀ k, y.v.ownBlock = some k → k < w.heap.size := fun y hy => ⟨(H.fl y hy).blk.lt, fun k hk => ((H.fl y hy).own.lt k hk).2⟩
  refine ⟨blk_chg H.blk hc (hno _ (by rw [r0]; decide)), qc_chg H.que hc (fun k hk => hno k (by rw [r1 k hk]; decide)), ownI_chg H.own hc (fun k hk => hno k (by rw [r2 k hk]; decide)), fun y hy => ?_, H.lo, ?_, ⟨upR ρ w.heap.size 4, by rw [upR_old H.blk.lt]; exact r0, fun k h => by rw [upR_old (H.que.lt k h).2]; exact r1 k h, fun k h => by rw [upR_old (H.own.lt k h).2]; exact r2 k h, fun y hy => ?_⟩, hc.below H.bel (fun k h => by rw [h]; exact (H.fl x (by simp)).lo), Nat.le_trans H.siz hc.size⟩
  · rcases List.mem_cons.1 hy with rfl | hy
    · exact hf
    · have := r3 y (by simp only [List.cons_append]; exact List.mem_cons_of_mem _ hy)
      exact (H.fl y (List.mem_cons_of_mem _ hy)).chg hc (hne y hy) (fun k hk => hno k (by rw [this.2 k hk]; decide))
  · rw [List.cons_append, List.map_cons, hb]; exact List.nodup_cons.2 hnd
  · rcases List.mem_cons.1 hy with rfl | hy
    · refine ⟨by rw [hb, upR_old (hl x (by simp)).1]; exact hx.1, fun k hk' => ?_⟩
      rcases hk k hk' with h | h
      · rw [upR_old ((hl x (by simp)).2 k h)]; exact hx.2 k h
      · rw [upR_new (by omega)]
    · have h1 := r3 y (List.mem_cons_of_mem _ hy)
      have h2 := hl y (List.mem_cons_of_mem _ hy)
      exact ⟨by rw [upR_old h2.1]; exact h1.1, fun k hk => by rw [upR_old (h2.2 k hk)]; exact h1.2 k hk⟩
/-- What is served is written. -/
theorem St.app (H : St w0 w r q o ex qs out) (ho : OwnI w' w0.heap.size o' out') (hg : w.grownBy w' o.ownBlock) (hat : o'.ownBlock = o.ownBlock ∨ o'.ownBlock = some w.heap.size) : St w0 w' r q o' ex qs out' := by
  obtain ⟨ρ, r0, r1, r2, r3⟩ := H.rol
  have hc : Chg (fun k => o.ownBlock = some k) w w' := Chg.of_grown hg (fun k e => e)
  have hno : ∀ k, ρ k ≠ 2 → ¬ o.ownBlock = some k := fun k h e => h (r2 k e)
  refine ⟨blk_chg H.blk hc (hno _ (by rw [r0]; decide)), qc_chg H.que hc (fun k hk => hno k (by rw [r1 k hk]; decide)), ho, fun y hy => ?_, H.lo, H.nd, ⟨upR ρ w.heap.size 2, by rw [upR_old H.blk.lt]; exact r0, fun k h => by rw [upR_old (H.que.lt k h).2]; exact r1 k h, fun k h => ?_, fun y hy => ?_⟩, hc.below H.bel (fun k h => (H.own.lt k h).1), Nat.le_trans H.siz hc.size⟩
  · have := r3 y hy
    exact (H.fl y hy).chg hc (hno _ (by rw [this.1]; decide)) (fun k hk => hno k (by rw [this.2 k hk]; decide))
  · rcases hat with h1 | h1
    · rw [h1] at h
      rw [upR_old (H.own.lt k h).2]; exact r2 k h
    · rw [h1] at h
      injection h with h
      rw [upR_new (by omega)]
  · have h1 := r3 y hy
    have h2 := H.fl y hy
    exact ⟨by rw [upR_old h2.blk.lt]; exact h1.1, fun k hk => by rw [upR_old (h2.own.lt k hk).2]; exact h1.2 k hk⟩
theorem St.drop (H : St w0 w r q o (x :: ex) qs out) : St w0 w r q o ex qs out := by
  obtain ⟨ρ, r0, r1, r2, r3⟩ := H.rol
  have hnd := H.nd
  rw [List.cons_append, List.map_cons, List.nodup_cons] at hnd
  exact ⟨H.blk, H.que, H.own, fun y hy => H.fl y (List.mem_cons_of_mem _ hy), H.lo, hnd.2, ⟨ρ, r0, r1, r2, fun y hy => r3 y (List.mem_cons_of_mem _ hy)⟩, H.bel, H.siz⟩
/-- A new queue. -/
theorem St.new (H : St w0 w r q o ex qs out) (num : Nat) : St w0 (w.alloc (.cells #[.int .i64 (num : Int), .slice none 0 0, .int .i64 0] 54)) r q o (⟨w.heap.size, .slice none 0 0, ⟨num, [], 0⟩⟩ :: ex) qs out := by
  have H' := H.alloc (.cells #[.int .i64 (num : Int), .slice none 0 0, .int .i64 0] 54)
  obtain ⟨ρ, r0, r1, r2, r3⟩ := H.rol
  have hl : ∀ y ∈ ex ++ qs, y.b < w.heap.size ∧ ∀ k, y.v.ownBlock = some k → k < w.heap.size := fun y hy => ⟨(H.fl y hy).blk.lt, fun k hk => ((H.fl y hy).own.lt k hk).2⟩
  refine ⟨H'.blk, H'.que, H'.own, fun y hy => ?_, H.lo, ?_, ⟨upR ρ w.heap.size 3, by rw [upR_old H.blk.lt]; exact r0, fun k h => by rw [upR_old (H.que.lt k h).2]; exact r1 k h, fun k h => by rw [upR_old (H.own.lt k h).2]; exact r2 k h, fun y hy => ?_⟩, H'.bel, H'.siz⟩
  · rcases List.mem_cons.1 hy with rfl | hy
    · exact ⟨Blk.new w _ _, OwnQ.nil _ _, H.siz⟩
    · exact H'.fl y hy
  · rw [List.cons_append, List.map_cons, List.nodup_cons]
    refine ⟨fun h => ?_, H.nd⟩
    obtain ⟨y, hy, e⟩ := List.mem_map.1 h
    have := (hl y hy).1
    rw [e] at this
    exact Nat.lt_irrefl _ this
  · rcases List.mem_cons.1 hy with rfl | hy
    · exact ⟨by rw [upR_new (Nat.le_refl _)], fun k hk => by simp [Value.ownBlock] at hk⟩
    · exact ⟨by rw [upR_old (hl y hy).1]; exact (r3 y hy).1, fun k hk => by rw [upR_old ((hl y hy).2 k hk)]; exact (r3 y hy).2 k hk⟩
theorem St.ne (H : St w0 w r q o ex qs out) : ∀ k, q.ownBlock = some k → k ≠ r := fun k hk e => by
  obtain ⟨ρ, r0, r1, _⟩ := H.rol
  have := r1 k hk
  rw [e, r0] at this
  omega
theorem St.ne_fl (H : St w0 w r q o (x :: ex) qs out) : ∀ k, x.v.ownBlock = some k → k ≠ x.b := fun k hk e => by
  obtain ⟨ρ, r0, r1, r2, r3⟩ := H.rol
  have := r3 x (by simp)
  have h1 := this.2 k hk
  rw [e, this.1] at h1
  omega
/-- The round in a new block. -/
theorem St.start (w0 : World) : St w0 (w0.alloc (.cells #[.slice none 0 0] 64)) w0.heap.size (.slice none 0 0) (.slice none 0 0) [] [] [] :=
  ⟨Blk.new w0 _ _, QC.nil _ _ _ _, OwnI.nil _ _, by simp, Nat.le_refl _, by simp, ⟨fun _ => 0, rfl, by simp [Value.ownBlock], by simp [Value.ownBlock], by simp⟩, balloc (brefl w0) _, by simp⟩
end Go.Proofs.Ytckfobkkjiiheaa.Drr
