/- Package rpf: the queue of copies in memory; put. No statement is proved here. -/
import Derived.Test.YtedhippamfioeaaDoorRpfFly
import Derived.Test.YtedhippamfioeaaDoorQueueC
import Derived.Test.YtedhippamfioeaaDoorBlk
import Derived.Test.YtedhippamfioeaaDoorErr
import Derived.Deep.RegionLaw
import Derived.Deep.RegionWith
namespace Go.Proofs.YtedhippamfioeaaDoor.Rpf
open Go.ChangeShapes Go.WideShapes Go.ChangeAt Go.RowKit Go.Proofs.YtedhippamfioeaaDoor.Kit Go.Proofs.YtedhippamfioeaaDoor.App Go.Proofs.YtedhippamfioeaaDoor.Cells Go.Proofs.YtedhippamfioeaaDoor.Err
set_option linter.unusedVariables false
set_option maxRecDepth 20000
set_option maxHeartbeats 1000000

def sdc (d : Sd) : List Value := [.int .i64 (d.src : Int), .int .i64 (d.dst : Int)]
def layS : Lay Sd := ⟨sdc, 2, by decide, fun _ => rfl, fun x v hv => by
  simp only [sdc, List.mem_cons, List.not_mem_nil, or_false] at hv
  rcases hv with rfl | rfl <;> rfl⟩
theorem tyS : Ty layS 47 52 16 := ⟨Tryd.underlying47, by
  have h : (Tryd.prog.info? 52).map (fun i => (i.zero, i.size, i.bytes)) = some (some (.agg #[.int .i64 0, .int .i64 0]), 2, 16) := by kernel_rfl
  obtain ⟨i, hi, hz⟩ := Option.map_eq_some_iff.1 h
  simp only [Prod.mk.injEq] at hz
  exact ⟨i, _, hi, hz.1, hz.2.1, hz.2.2, rfl⟩, by decide⟩
theorem elS : Tryd.prog.elem 47 = 52 := by kernel_rfl

/-- Memory but for the block b and the block of the slice v, which becomes v'. -/
structure Mv (b : Nat) (v : Value) (w : World) (v' : Value) (w' : World) : Prop where
  os : w'.os = w.os
  tape : w'.tape = w.tape
  output : w'.output = w.output
  size : w.heap.size ≤ w'.heap.size
  block : ∀ k, k < w.heap.size → k ≠ b → v.ownBlock ≠ some k → w'.heap[k]? = w.heap[k]?
  own : ∀ k, v'.ownBlock = some k → v.ownBlock = some k ∨ w.heap.size ≤ k
variable {b : Nat} {v v' v1 : Value} {w w' w1 : World} {F : List Sd}
theorem Mv.refl (b : Nat) (v : Value) (w : World) : Mv b v w v w := ⟨rfl, rfl, rfl, Nat.le_refl _, fun _ _ _ _ => rfl, fun _ h => .inl h⟩
theorem Mv.trans (h : Mv b v w v1 w1) (h' : Mv b v1 w1 v' w') : Mv b v w v' w' :=
  ⟨h'.os.trans h.os, h'.tape.trans h.tape, h'.output.trans h.output, Nat.le_trans h.size h'.size, fun k hk hb hv => (h'.block k (Nat.lt_of_lt_of_le hk h.size) hb (fun e => by
    rcases h.own k e with h1 | h1
    · exact hv h1
    · omega)).trans (h.block k hk hb hv), fun k hk => by
    rcases h'.own k hk with h1 | h1
    · exact h.own k h1
    · exact .inr (Nat.le_trans h.size h1)⟩
theorem Mv.grown (hg : w.grownBy w1 none) (h : Mv b v w1 v' w') : Mv b v w v' w' :=
  ⟨h.os.trans hg.os, h.tape.trans hg.tape, h.output.trans hg.output, Nat.le_trans hg.size h.size, fun k hk hb hv => (h.block k (Nat.lt_of_lt_of_le hk hg.size) hb hv).trans (hg.block k hk (by simp)), fun k hk => by
    rcases h.own k hk with h1 | h1
    · exact .inl h1
    · exact .inr (Nat.le_trans hg.size h1)⟩
/-- The queue: its block, the slice of what waits. -/
structure Qs (w : World) (b : Nat) (v : Value) (F : List Sd) : Prop where
  blk : Blk 49 w b [v]
  own : QC layS 52 w 0 v F
  ne : ∀ k, v.ownBlock = some k → k ≠ b
theorem Qs.grown {row : Option Nat} (h : Qs w b v F) (hg : w.grownBy w' row) (h1 : some b ≠ row) (h2 : ∀ k, v.ownBlock = some k → some k ≠ row) : Qs w' b v F :=
  ⟨h.blk.more hg h1, h.own.more hg (by
    cases e : v.ownBlock with
    | none => exact .inl rfl
    | some k => exact .inr (h2 k e)), h.ne⟩
theorem Qs.lt (h : Qs w b v F) : ∀ k, v.ownBlock = some k → k < w.heap.size := fun k hk => (h.own.lt k hk).2
/-- What is left behind by an append, and by the store that follows. -/
theorem gtr {a b c : World} {g : Option Nat} (h : a.grownBy b g) (h2 : b.grownBy c g) : a.grownBy c g :=
  ⟨h2.os.trans h.os, h2.tape.trans h.tape, h2.output.trans h.output, Nat.le_trans h.size h2.size, fun k hk hr => (h2.block k (Nat.lt_of_lt_of_le hk h.size) hr).trans (h.block k hk hr)⟩
theorem put_done {x : Sd} (h : Qs w b v F) (hg : w.grownBy w1 none) (hown : QC layS 52 w1 0 v F) (hq : QC layS 52 w' 0 v' (F ++ [x])) (hg2 : w1.grownBy w' v.ownBlock) (hat : v'.ownBlock = v.ownBlock ∨ v'.ownBlock = some w1.heap.size) :
    Qs (w'.setCell ⟨b, 0, none⟩ v') b v' (F ++ [x]) ∧ Mv b v w v' (w'.setCell ⟨b, 0, none⟩ v') := by
  have hs1 : w.heap.size ≤ w1.heap.size := hg.size
  have hb1 := h.blk.lt
  have hne : ∀ k, v'.ownBlock = some k → k ≠ b := fun k hk e => by
    rcases hat with h2 | h2
    · rw [h2] at hk; exact h.ne k hk e
    · rw [h2] at hk; injection hk with hk; omega
  have gb : w1.heap[b]? = w.heap[b]? := hg.block b hb1 (by simp)
  have gb2 : w'.heap[b]? = w.heap[b]? := (hg2.block b (by omega) (fun e => h.ne b e.symm rfl)).trans gb
  have hs := set_grown w' b 0 v'
  refine ⟨⟨?_, hq.more hs ?_, hne⟩, ?_⟩
  · have h2 : Blk 49 w' b [v] := gb2.trans h.blk
    exact h2.set 0 _
  · cases e : v'.ownBlock with
    | none => exact .inl rfl
    | some k => exact .inr (fun e2 => hne k e (by injection e2))
  · refine ⟨hs.os.trans (hg2.os.trans hg.os), hs.tape.trans (hg2.tape.trans hg.tape), hs.output.trans (hg2.output.trans hg.output), Nat.le_trans hs1 (Nat.le_trans hg2.size hs.size), fun k hk hkb hv => ?_, fun k hk => ?_⟩
    · have hk1 := Nat.lt_of_lt_of_le hk hs1
      rw [hs.block k (Nat.lt_of_lt_of_le hk1 hg2.size) (fun e => hkb (by injection e)), hg2.block k hk1 (fun e => hv e.symm), hg.block k hk (by simp)]
    · rcases hat with h2 | h2
      · rw [h2] at hk; exact .inl hk
      · rw [h2] at hk; injection hk with hk; exact .inr (by omega)
theorem step_appQC {τ : Type} {L : Lay τ} {e t : TypeId} {bytes : Nat} (T : Ty L t e bytes) {w : World} {ops : Array Oper} {o : Oper} {a : Act} {K : Act → World → Prop} {Q : Exit → Act → World → Prop} {E : Prop} (hgd : o.guard = none) (s x : Operand)
    (ho : o.op = .call { callee := .builtin .append, args := #[s, x], argTypes := #[t, t] })
    (base : Nat) (v : Value) (xs : List τ) (p : Option Addr) (cap n : Nat) (l : List τ) (hs : a.eval s = v) (hown : QC L e w base v xs) (hx : a.eval x = .slice p n cap) (hn : n = l.length) (hl : CI L w p cap l)
    (hlen : xs.length + l.length ≤ 1000000) (hbase : base ≤ w.heap.size)
    (h : ∀ v' w', QC L e w' base v' (xs ++ l) → w.grownBy w' v.ownBlock → (v'.ownBlock = v.ownBlock ∨ v'.ownBlock = some w.heap.size) → K (a.put o.dst v') w') :
    if Region.wanted o (yielded ops a.tmps) = true then Oper.wp Tryd.prog o a w K Q else E := by
  have hw : Region.wanted o (yielded ops a.tmps) = true := by simp [Region.wanted, hgd]
  rw [if_pos hw]
  obtain ⟨v', w', hrun, h2, h3, h4⟩ := run_appQC T w o.type base v xs p cap l hown hl hlen hbase
  unfold Oper.wp execOp
  rw [hn] at hx
  simp only [ho, resolve, invoke, builtin, Sem.run_bind, Sem.run_pure, Result.andThen_ok, List.map_toArray, List.map_cons, List.map_nil, hs, hx, hrun]
  exact h v' w' h2 h3 h4

theorem put_any (b : Nat) (v : Value) (F : List Sd) (d : Sd) (w : World) (hq : Qs w b v F) (hF : F.length ≤ 1000) :
    Calls Tryd.prog 19 #[.pointer (some ⟨b, 0, none⟩), .agg (sdc d).toArray] w fun e w' => e = .returned (.tuple #[]) ∧ ∃ v', Qs w' b v' (F ++ [d]) ∧ Mv b v w v' w' := by
  obtain ⟨p, c, rfl, hci⟩ := hq.own.form
  have hlen := hci.len_le
  obtain ⟨n, hn⟩ : ∃ n, F.length = n := ⟨_, rfl⟩
  rw [hn] at hF hlen hq ⊢
  have HQ := Lib.hid hq
  have HN := Lib.hid hn
  obtain ⟨z, hz⟩ : ∃ z, w.heap.size = z := ⟨_, rfl⟩
  have hbz : b < z := by rw [← hz]; exact hq.blk.lt
  have g2 : w.grownBy ((w.alloc (.cells (sdc d).toArray 52)).alloc (.cells (sdc d).toArray 52)).drew none := grown_drew (gtr (World.grownBy_alloc w _ none) (World.grownBy_alloc _ _ none))
  have HQ2 := Lib.hid (hq.grown g2 (by simp) (by simp))
  have HQ1 := Lib.hid (hq.grown (World.grownBy_alloc w (.cells (sdc d).toArray 52) none) (by simp) (by simp))
  have HX := Lib.hid (show CI layS ((w.alloc (.cells (sdc d).toArray 52)).alloc (.cells (sdc d).toArray 52)).drew (some ⟨z + 1, 0, none⟩) 1 [d] from by
    have h := CI.one layS (w.alloc (.cells (sdc d).toArray 52)) d 52
    rw [World.size_alloc, hz] at h
    exact h)
  have HG2 := Lib.hid g2
  have HB0 := Lib.hid (Blk.new w 52 (sdc d))
  have HZ := Lib.hid hz
  rw [hz] at HB0
  have c1 := HQ1.out.blk.cell 0 _ rfl
  have b0 := HB0.out.cell 0 _ rfl
  have b1 := HB0.out.cell 1 _ rfl
  unfold sdc at *
  clear hn hci g2
  go_enter Tryd.func19, Tryd.ntmps19
  go_wp2_with fail
  go_region_law (refine step_appQC tyS rfl (.tmp 8) (.tmp 10) rfl 0 (.slice p n c) F (some ⟨z + 1, 0, none⟩) 1 1 [d] rfl HQ2.out.own rfl rfl HX.out (by rw [HN.out]; simp; omega) (Nat.zero_le _) ?_
                 intro v1 w1 hown1 hg1 hat1
                 have hd := put_done (x := d) HQ.out HG2.out HQ2.out.own hown1 hg1 hat1
                 have hb1 := (HQ2.out.blk.more hg1 (fun e => HQ.out.ne b e.symm rfl))
                 have hc1 := hb1.cell 0 _ rfl
                 have hf1 := hb1.fz 0
                 obtain ⟨p1, cap1, e1, hI1⟩ := hown1.form
                 generalize (F ++ [d]).length = L1 at e1
                 subst e1
                 have HD := Lib.hid hd
                 clear hown1 hg1 hat1 hb1 hd hI1)
  all_goals
    go_wp2_with fail
    refine bodyPost_end (results_none rfl _ _ _) rfl ?_
    exact ⟨rfl, _, HD.out.1, HD.out.2⟩
end Go.Proofs.YtedhippamfioeaaDoor.Rpf
