/- The contracts of frag.gather and of what it returns. No statement is proved here. -/
import Derived.Test.YtcleanjacijfoaaFJoin2
namespace Go.Proofs.Ytcleanjacijfoaa.Part
open Go.ChangeShapes Go.WideShapes Go.ChangeAt Go.RowKit Go.Proofs.Ytcleanjacijfoaa.Kit Go.Proofs.Ytcleanjacijfoaa.App Go.Proofs.Ytcleanjacijfoaa.Cells
set_option linter.unusedVariables false
set_option maxRecDepth 20000

theorem gb_set (W : World) (b : Nat) (v : Value) : W.grownBy (W.setCell ⟨b, 0, none⟩ v) (some b) :=
  ⟨rfl, rfl, rfl, by simp, fun k hk hne => by
    have hb : ¬ b = k := fun e => hne (by rw [e])
    unfold World.setCell
    simp only
    rw [Array.getElem?_modify, if_neg hb]⟩
theorem zero200 : (Try.prog.info? 80).map (fun i => i.zero) = some (some (.agg (layN.all (rowN fun _ => 0)).toArray)) := by kernel_rfl
theorem zeroC (w : World) : (zeroValue 80).run Try.prog w = .ok (.agg (layN.all (rowN fun _ => 0)).toArray) w := by
  obtain ⟨i, hi, hz⟩ := Option.map_eq_some_iff.1 zero200
  simp only [zeroValue, typeInfo, Sem.run_bind, run_program, Result.andThen_ok, hi, hz, Sem.run_pure]
theorem fresh_cells (w : World) (base : Nat) (hb : base ≤ w.heap.size) : CH (w.alloc (.cells (layN.all (rowN fun _ => 0)).toArray 80)) base w.heap.size (fun _ => 0) := by
  have hl : (layN.all (rowN fun _ => 0)).length = 400 := by rw [layN.all_len, rowN_len]; rfl
  refine ⟨?_, fun i => Nat.zero_le _⟩
  show World.ownsRow _ _ _ layN.k _ _ _
  refine ⟨layN.all_len _, .inr ⟨w.heap.size, 200, _, by rw [rowN_len], hb, alloc_new w _, by rw [rowN_len]; exact Nat.le_refl _, by decide, ?_, ?_⟩⟩
  · show (layN.all (rowN fun _ => 0)).toArray.size = 200 * 2
    simp [hl]
  · rw [rowN_len]
    show ((layN.all (rowN fun _ => 0)).toArray.toList).take (200 * 2) = _
    rw [List.take_of_length_le (by simp [hl])]

/-- How it stands: the cells' block, those of the end and of whether there is one. -/
structure St (w : World) (base eb db g : Nat) (fin : Int) (h : Nat → Nat) : Prop where
  H : CH w base g h
  e : w.cell? ⟨eb, 0, none⟩ = some (.bool (decide (0 ≤ fin)))
  ef : w.frozen? ⟨eb, 0, none⟩ = false
  d : ∃ z, w.cell? ⟨db, 0, none⟩ = some (.int .i64 z) ∧ (0 ≤ fin → z = fin)
  df : w.frozen? ⟨db, 0, none⟩ = false
  n1 : eb ≠ g
  n2 : db ≠ g
  n3 : eb ≠ db
  b1 : base ≤ eb ∧ eb < w.heap.size
  b2 : base ≤ db ∧ db < w.heap.size
theorem frozen_of_block {w w' : World} {a : Addr} (h : w'.heap[a.block]? = w.heap[a.block]?) : w'.frozen? a = w.frozen? a := by
  unfold World.frozen?
  rw [h]
theorem St.below {w w' : World} {base eb db g : Nat} {fin : Int} {h : Nat → Nat} (S : St w base eb db g fin h) (hb : Below w.heap.size w w') : St w' base eb db g fin h :=
  ⟨S.H.below hb, (hb.cell (p := ⟨eb, 0, none⟩) S.b1.2).trans S.e, (frozen_of_block (a := ⟨eb, 0, none⟩) (hb.block _ S.b1.2)).trans S.ef, by
    obtain ⟨z, hz, hf⟩ := S.d
    exact ⟨z, (hb.cell (p := ⟨db, 0, none⟩) S.b2.2).trans hz, hf⟩, (frozen_of_block (a := ⟨db, 0, none⟩) (hb.block _ S.b2.2)).trans S.df, S.n1, S.n2, S.n3, ⟨S.b1.1, Nat.lt_of_lt_of_le S.b1.2 hb.size⟩, ⟨S.b2.1, Nat.lt_of_lt_of_le S.b2.2 hb.size⟩⟩
theorem St.drew {w : World} {base eb db g : Nat} {fin : Int} {h : Nat → Nat} (S : St w base eb db g fin h) : St w.drew base eb db g fin h := ⟨S.H, S.e, S.ef, S.d, S.df, S.n1, S.n2, S.n3, S.b1, S.b2⟩
theorem St.alloc {w : World} {base eb db g : Nat} {fin : Int} {h : Nat → Nat} (S : St w base eb db g fin h) (o : Obj) : St (w.alloc o) base eb db g fin h := S.below (balloc (brefl w) o)
/-- Behind put. -/
theorem St.put {w w' : World} {base eb db g : Nat} {fin : Int} {h h' : Nat → Nat} (S : St w base eb db g fin h) (hg : w.grownBy w' (some g)) (H : CH w' base g h') : St w' base eb db g fin h' := by
  have k1 := hg.block eb S.b1.2 (by simpa using S.n1)
  have k2 := hg.block db S.b2.2 (by simpa using S.n2)
  refine ⟨H, (World.cell?_of_block (w := w) (a := ⟨eb, 0, none⟩) k1).trans S.e, (frozen_of_block (a := ⟨eb, 0, none⟩) k1).trans S.ef, ?_, (frozen_of_block (a := ⟨db, 0, none⟩) k2).trans S.df, S.n1, S.n2, S.n3, ⟨S.b1.1, Nat.lt_of_lt_of_le S.b1.2 hg.size⟩, ⟨S.b2.1, Nat.lt_of_lt_of_le S.b2.2 hg.size⟩⟩
  obtain ⟨z, hz, hf⟩ := S.d
  exact ⟨z, (World.cell?_of_block (w := w) (a := ⟨db, 0, none⟩) k2).trans hz, hf⟩
/-- A new end. -/
theorem St.ends {w : World} {base eb db g : Nat} {fin : Int} {h : Nat → Nat} (S : St w base eb db g fin h) (z : Int) (h0 : 0 ≤ z) : St ((w.setCell ⟨db, 0, none⟩ (.int .i64 z)).setCell ⟨eb, 0, none⟩ (.bool true)) base eb db g z h := by
  have e1 := S.e
  obtain ⟨y, e2, _⟩ := S.d
  have n3 := S.n3
  have n3' : db ≠ eb := fun e => n3 e.symm
  have hb : Below (w.heap.size) w w := brefl w
  refine ⟨?_, ?_, by rw [World.frozen?_setCell, World.frozen?_setCell]; exact S.ef, ⟨z, ?_, fun _ => rfl⟩, by rw [World.frozen?_setCell, World.frozen?_setCell]; exact S.df, S.n1, S.n2, S.n3, ⟨S.b1.1, by simpa using S.b1.2⟩, ⟨S.b2.1, by simpa using S.b2.2⟩⟩
  · have g1 : w.grownBy (w.setCell ⟨db, 0, none⟩ (.int .i64 z)) (some db) := gb_set w db _
    have g2 : (w.setCell ⟨db, 0, none⟩ (.int .i64 z)).grownBy ((w.setCell ⟨db, 0, none⟩ (.int .i64 z)).setCell ⟨eb, 0, none⟩ (.bool true)) (some eb) := gb_set _ eb _
    exact (S.H.more g1 (fun e => S.n2 e.symm)).more g2 (fun e => S.n1 e.symm)
  · rw [decide_eq_true h0]
    exact World.cell?_setCell_same' _ _ _ (by
      have k := (gb_set w db (.int .i64 z)).block eb S.b1.2 (by simpa using n3)
      rw [(World.cell?_of_block (w := w) (a := ⟨eb, 0, none⟩) k).trans e1]; rfl)
  · have k := (gb_set (w.setCell ⟨db, 0, none⟩ (.int .i64 z)) eb (.bool true)).block db (by simpa using S.b2.2) (by simpa using n3')
    rw [World.cell?_of_block (w := w.setCell ⟨db, 0, none⟩ (.int .i64 z)) (a := ⟨db, 0, none⟩) k]
    exact World.cell?_setCell_same' _ _ _ (by rw [e2]; rfl)

set_option maxHeartbeats 1000000 in
theorem gather_any (w : World) :
    Calls Try.prog 26 #[] w fun e w' => ∃ g eb db, e = .returned (.tuple #[.func (.func 28) #[] #[.pointer (some ⟨eb, 0, none⟩), .pointer (some ⟨db, 0, none⟩), .pointer (some ⟨g, 0, none⟩)], .func (.func 31) #[] #[.pointer (some ⟨eb, 0, none⟩), .pointer (some ⟨g, 0, none⟩), .pointer (some ⟨db, 0, none⟩)]]) ∧ St w' w.heap.size eb db g (-1) (fun _ => 0) ∧ Below w.heap.size w w' := by
  have hz : ∀ W, (zeroValue 80).run Try.prog W = .ok (.agg (layN.all (rowN fun _ => 0)).toArray) W := zeroC
  have hf := Lib.hid (fresh_cells w w.heap.size (Nat.le_refl _))
  generalize (layN.all (rowN fun _ => 0)).toArray = Z at hz hf
  go_enter Try.func26, Try.ntmps26
  go_wp2_with fail
  go_ret2
  refine ⟨_, _, _, rfl, ⟨(hf.out.alloc _).alloc _, ?_, ?_, ⟨0, ?_, fun h => by omega⟩, ?_, by omega, by omega, by omega, ⟨by omega, by simp⟩, ⟨by omega, by simp⟩⟩, balloc (balloc (balloc (brefl w) _) _) _⟩
  · go_simp
  · go_simp
  · go_simp
  · go_simp
end Go.Proofs.Ytcleanjacijfoaa.Part
