/- A slice of numbers of the call's own whose beginning may have been cut off: a queue. No statement is proved here. -/
import Derived.Test.YtckfobkkjiiheaaSub
namespace Go.Proofs.Ytckfobkkjiiheaa.Queue
open Go.ChangeShapes Go.WideShapes Go.ChangeAt Go.RowKit Go.Proofs.Ytckfobkkjiiheaa.Kit Go.Proofs.Ytckfobkkjiiheaa.App
set_option linter.unusedVariables false
set_option maxRecDepth 20000

/-- A slice of the call's own, from some place of its block on, that reads as l. -/
def OwnQ (w : World) (base : Nat) (v : Value) (l : List Int) : Prop :=
  (∀ x ∈ l, (Lit.int .i64 x).wf = true) ∧ ((v = .slice none 0 0 ∧ l = []) ∨ ∃ (g off cap : Nat) (cur : Array Value), v = .slice (some ⟨g, off, none⟩) l.length cap ∧ base ≤ g ∧ w.heap[g]? = some (.cells cur 3) ∧ l.length ≤ cap ∧ cap ≤ maxLen ∧ off + cap ≤ cur.size ∧
    ∀ j : Nat, j < l.length → cur[off + j]? = some (.int .i64 (l[j]?.getD 0)))
theorem OwnQ.nil (w : World) (base : Nat) : OwnQ w base (.slice none 0 0) [] := ⟨by simp, .inl ⟨rfl, rfl⟩⟩
theorem OwnQ.of_own {w : World} {base : Nat} {v : Value} {l : List Int} (h : OwnI w base v l) : OwnQ w base v l := by
  have h0 := h
  obtain ⟨⟨hl, ⟨rfl, hn⟩ | ⟨g, cap, cur, rfl, hb, hh, hnc, hcm, hcs, ht⟩⟩, hw⟩ := h
  · exact ⟨hw, .inl ⟨rfl, List.eq_nil_of_length_eq_zero hn⟩⟩
  · refine ⟨hw, .inr ⟨g, 0, cap, cur, rfl, hb, hh, hnc, hcm, by omega, fun j hj => ?_⟩⟩
    have h1 := World.ownsRow.cellAt h0.1 j (by omega)
    unfold World.cell? at h1
    rw [hh] at h1
    rw [Nat.zero_add]
    have h2 : cur[j]? = (l.map (Value.int .i64))[j]? := h1
    rw [h2, List.getElem?_map, List.getElem?_eq_getElem hj]
    rfl
theorem OwnQ.form {w : World} {base : Nat} {v : Value} {l : List Int} (h : OwnQ w base v l) : ∃ p cap, v = .slice p l.length cap ∧ Ints w p cap l := by
  obtain ⟨hw, ⟨rfl, rfl⟩ | ⟨g, off, cap, cur, rfl, hb, hh, hnc, hcm, hcs, ht⟩⟩ := h
  · exact ⟨none, 0, rfl, Ints.nil w⟩
  · exact ⟨_, cap, rfl, ints_row hh hnc hcm hw ht⟩
theorem OwnQ.more {w w' : World} {base : Nat} {v : Value} {l : List Int} {row : Option Nat} (h : OwnQ w base v l) (hg : w.grownBy w' row) (hne : v.ownBlock = none ∨ v.ownBlock ≠ row) : OwnQ w' base v l := by
  obtain ⟨hw, ⟨rfl, rfl⟩ | ⟨g, off, cap, cur, rfl, hb, hh, hnc, hcm, hcs, ht⟩⟩ := h
  · exact OwnQ.nil _ _
  · refine ⟨hw, .inr ⟨g, off, cap, cur, rfl, hb, ?_, hnc, hcm, hcs, ht⟩⟩
    rw [hg.block g (Array.getElem?_eq_some_iff.1 hh).1 (fun e => ?_)]
    · exact hh
    · rcases hne with h | h
      · simp [Value.ownBlock] at h
      · exact h (by rw [← e]; rfl)
theorem OwnQ.below {w w' : World} {base : Nat} {v : Value} {l : List Int} (h : OwnQ w base v l) (hb : Below w.heap.size w w') : OwnQ w' base v l :=
  h.more (row := none) ⟨hb.os, hb.tape, hb.output, hb.size, fun k hk _ => hb.block k hk⟩ (by cases v.ownBlock <;> simp)
theorem OwnQ.alloc {w : World} {base : Nat} {v : Value} {l : List Int} (h : OwnQ w base v l) (o : Obj) : OwnQ (w.alloc o) base v l := h.more (World.grownBy_alloc w o none) (by cases v.ownBlock <;> simp)
theorem OwnQ.drew {w : World} {base : Nat} {v : Value} {l : List Int} (h : OwnQ w base v l) : OwnQ w.drew base v l := h
theorem OwnQ.drewN {w : World} {base : Nat} {v : Value} {l : List Int} (h : OwnQ w base v l) (n : Nat) : OwnQ (w.drewN n) base v l := h
theorem OwnQ.lt {w : World} {base : Nat} {v : Value} {l : List Int} (h : OwnQ w base v l) : ∀ k, v.ownBlock = some k → base ≤ k ∧ k < w.heap.size := fun k hk => by
  obtain ⟨hw, ⟨rfl, rfl⟩ | ⟨g, off, cap, cur, rfl, hb, hh, _⟩⟩ := h
  · simp [Value.ownBlock] at hk
  · obtain rfl : g = k := by simpa [Value.ownBlock] using hk
    exact ⟨hb, (Array.getElem?_eq_some_iff.1 hh).1⟩
theorem OwnQ.mono {w : World} {base base' : Nat} {v : Value} {l : List Int} (h : OwnQ w base v l) (hb : base' ≤ base) : OwnQ w base' v l := by
  obtain ⟨hw, h | ⟨g, off, cap, cur, rfl, hg, rest⟩⟩ := h
  · exact ⟨hw, .inl h⟩
  · exact ⟨hw, .inr ⟨g, off, cap, cur, rfl, by omega, rest⟩⟩

theorem run_appQ (w : World) (ty base : Nat) (v : Value) (xs : List Int) (p : Option Addr) (cap : Nat) (l : List Int) (hown : OwnQ w base v xs) (hl : Ints w p cap l) (hlen : xs.length + l.length ≤ 1000000) (hbase : base ≤ w.heap.size) :
    ∃ v' w', (Builtin.append_ #[22, 22] ty #[v, .slice p l.length cap]).run Try.prog w = .ok v' w' ∧ OwnQ w' base v' (xs ++ l) ∧ w.grownBy w' v.ownBlock ∧ (v'.ownBlock = v.ownBlock ∨ v'.ownBlock = some w.heap.size) := by
  obtain ⟨i, hi, hz, hs, hby⟩ := info_parts info_int
  have h0 := hown
  obtain ⟨hxw, ⟨rfl, rfl⟩ | ⟨g, o, c, cur, rfl, hb, hg, hmc, hc, hfit, hxs⟩⟩ := hown
  · obtain ⟨v', w', h1, h2, h3, h4⟩ := run_app w ty base (.slice none 0 0) [] p cap l (OwnI.nil w base) hl (by omega) hbase
    exact ⟨v', w', h1, OwnQ.of_own h2, h3, h4⟩
  · cases p with
    | none =>
      have : l = [] := by
        by_cases h0 : 0 < l.length
        · obtain ⟨b, off, e, _⟩ := hl.2.2.2 h0; cases e
        · exact List.eq_nil_of_length_eq_zero (by omega)
      subst this
      refine ⟨_, w, ?_, by rw [List.append_nil]; exact h0, ⟨rfl, rfl, rfl, Nat.le_refl _, fun _ _ _ => rfl⟩, .inl rfl⟩
      simp [Builtin.append_, run_underlying Try.underlying22, sizeOf, typeInfo, hi, Builtin.lenOf, Builtin.firstCells, hmc, storeCells]
    | some a =>
      have hyw := ints_wf hl
      have hnews : ∀ j u, (l.map (Value.int .i64))[j]? = some u → w.cell? (a.add j) = some u := fun j u hu => by
        rw [List.getElem?_map] at hu
        have hj : j < l.length := by
          rcases Nat.lt_or_ge j l.length with h | h
          · exact h
          · rw [List.getElem?_eq_none h] at hu; cases hu
        obtain ⟨b, off, e, _, hcc⟩ := hl.2.2.2 (by omega)
        injection e with e
        subst e
        rw [add_plain, hcc j hj, ← hu, List.getElem?_eq_getElem hj]; rfl
      have hxyw : ∀ x ∈ xs ++ l, (Lit.int .i64 x).wf = true := fun x hx => (List.mem_append.1 hx).elim (hxw x) (hyw x)
      by_cases hroom : xs.length + l.length ≤ c
      · have hf := run_firstCells_some (P := Try.prog) w i.size l.length a l.length cap (l.map (Value.int .i64)) (by simp [hs]) hnews
        have hst := run_storeCells_at Try.prog g (o + xs.length) 3 (l.map (Value.int .i64)) 0 cur w hg (by simp; omega) (fun u hu => by simp at hu; obtain ⟨x, _, rfl⟩ := hu; rfl)
        simp only [Nat.add_zero] at hst
        rw [hs] at hf
        obtain ⟨R, hR⟩ : ∃ R, (cur.toList.take (o + xs.length) ++ l.map (Value.int .i64) ++ cur.toList.drop (o + xs.length + (l.map (Value.int .i64)).length)).toArray = R := ⟨_, rfl⟩
        rw [hR] at hst
        refine ⟨.slice (some ⟨g, o, none⟩) (xs.length + l.length) c, w.setRow g R, ?_, ⟨hxyw, .inr ⟨g, o, c, R, by rw [List.length_append], hb, ?_, by rw [List.length_append]; exact hroom, hc, ?_, fun j hj => ?_⟩⟩, ?_, .inl rfl⟩
        · simp [Builtin.append_, run_underlying Try.underlying22, sizeOf, typeInfo, hi, Builtin.lenOf, hroom, hf, hs, add_plain, hst]
        · simp [World.setRow, Array.getElem?_modify, hg]
        · rw [← hR]; simp; omega
        · have hcl : (cur.toList.take (o + xs.length)).length = o + xs.length := by rw [List.length_take, Array.length_toList]; exact Nat.min_eq_left (Nat.le_trans (Nat.add_le_add_left hmc o) hfit)
          rw [← hR, List.getElem?_toArray, List.append_assoc]
          rw [List.length_append] at hj
          by_cases h1 : j < xs.length
          · rw [List.getElem?_append_left (by rw [hcl]; omega), List.getElem?_take, if_pos (by omega), Array.getElem?_toList, hxs j h1, List.getElem?_append_left h1]
          · have e1 : o + j - (o + xs.length) = j - xs.length := by omega
            have e2 : j - xs.length < l.length := by omega
            rw [List.getElem?_append_right (by rw [hcl]; omega), hcl, e1, List.getElem?_append_left (by rw [List.length_map]; exact e2), List.getElem?_map, List.getElem?_append_right (Nat.le_of_not_lt h1), List.getElem?_eq_getElem e2]
            rfl
        · refine ⟨rfl, rfl, rfl, by simp [World.setRow], fun q hq hne => ?_⟩
          simp only [World.setRow, Array.getElem?_modify]
          rw [if_neg (fun e => hne (by rw [e]; rfl))]
      · have hrun := run_append_grow (P := Try.prog) w 22 ty 3 i (.int .i64 0) Try.underlying22 hi hz ⟨g, o, none⟩ xs.length c (xs.map (Value.int .i64)) (by simp [hs]) (fun j u hu => by
            rw [List.getElem?_map] at hu
            have hj : j < xs.length := by
              rcases Nat.lt_or_ge j xs.length with h | h
              · exact h
              · rw [List.getElem?_eq_none h] at hu; cases hu
            rw [add_plain]
            unfold World.cell?
            rw [hg, ← hu]
            show cur[o + j]? = _
            rw [hxs j hj, List.getElem?_eq_getElem hj]; rfl)
          a l.length cap (l.map (Value.int .i64)) (by simp [hs]) hnews (by omega) (by omega) (growslice_fits (by omega) (by rw [hby]; omega))
        have hgc : xs.length + l.length ≤ grownCap w (xs.length + l.length) c 3 ∧ grownCap w (xs.length + l.length) c 3 ≤ maxLen := ⟨grownCap_ge _ _ _ _, grownCap_le_maxLen _ _ _ _ (by unfold maxLen; omega)⟩
        refine ⟨_, _, hrun, ⟨hxyw, .inr ⟨w.heap.size, 0, grownCap w (xs.length + l.length) c 3, _, by rw [List.length_append], hbase, alloc_new w.drew _, by rw [List.length_append]; exact hgc.1, hgc.2, ?_, fun j hj => ?_⟩⟩, ⟨rfl, rfl, rfl, by simp, fun q hq _ => Below.heap_alloc w.drew _ q hq⟩, .inr rfl⟩
        · rw [Array.size_append, Array.size_append, size_zeroCells, show (Value.cells (.int .i64 0)).size = 1 from rfl, List.size_toArray, List.size_toArray, List.length_map, List.length_map]
          have h1 := hgc.1
          omega
        · rw [Nat.zero_add]
          simp only [List.length_append] at hj
          by_cases h1 : j < xs.length
          · rw [Array.getElem?_append_left (by simp; omega), Array.getElem?_append_left (by simpa using h1), List.getElem?_append_left h1]
            simp [h1]
          · rw [Array.getElem?_append_left (by simp; omega), Array.getElem?_append_right (by simp; omega), List.getElem?_append_right (by omega)]
            have h2 : j - xs.length < l.length := by omega
            simp [h2]

theorem wp_appQ {w : World} {ops : Array Oper} {rest : List Oper} {o : Oper} {a : Act} {Q : Exit → Act → World → Prop} (hgd : o.guard = none) (s x : Operand)
    (ho : o.op = .call { callee := .builtin .append, args := #[s, x], argTypes := #[22, 22] })
    (base : Nat) (v : Value) (xs : List Int) (p : Option Addr) (cap n : Nat) (l : List Int) (hs : a.eval s = v) (hown : OwnQ w base v xs) (hx : a.eval x = .slice p n cap) (hn : n = l.length) (hl : Ints w p cap l)
    (hlen : xs.length + l.length ≤ 1000000) (hbase : base ≤ w.heap.size)
    (h : ∀ v' w', OwnQ w' base v' (xs ++ l) → w.grownBy w' v.ownBlock → (v'.ownBlock = v.ownBlock ∨ v'.ownBlock = some w.heap.size) → wpList Try.prog ops Q rest (a.put o.dst v') w') :
    wpList Try.prog ops Q (o :: rest) a w := by
  refine wpList_plain hgd fun _ hK => ?_
  obtain ⟨v', w', hrun, h2, h3, h4⟩ := run_appQ w o.type base v xs p cap l hown hl hlen hbase
  unfold Oper.wp execOp
  rw [hn] at hx
  simp only [ho, resolve, invoke, builtin, Sem.run_bind, Sem.run_pure, Result.andThen_ok, List.map_toArray, List.map_cons, List.map_nil, hs, hx, hrun]
  exact hK _ _ (h v' w' h2 h3 h4)
theorem below_appQ {W w w' : World} {base : Nat} {v : Value} {xs : List Int} (hb : Below base W w) (hown : OwnQ w base v xs) (hg : w.grownBy w' v.ownBlock) (hB : base ≤ w.heap.size) : Below base W w' :=
  hb.grown hg hB (fun k hk => (hown.lt k hk).1)

theorem sl_int : Try.prog.underlying 22 = some (.slice (Try.prog.elem 22)) := by kernel_rfl
theorem size1 (W : World) : (sizeOf (Try.prog.elem 22)).run Try.prog W = .ok 1 W := by
  have h : (Try.prog.info? (Try.prog.elem 22)).map (fun i => i.size) = some 1 := by kernel_rfl
  obtain ⟨i, hi, hz⟩ := Option.map_eq_some_iff.1 h
  simp only [sizeOf, typeInfo, Sem.run_bind, run_program, Result.andThen_ok, hi, hz, Sem.run_pure]
/-- 'q[1:]': what the walk wants, and what is left. -/
theorem OwnQ.tail {w : World} {base : Nat} {v : Value} {x : Int} {l : List Int} (h : OwnQ w base v (x :: l)) : ∃ v', (∀ W, (Instr.slice 22 v (some (.int .i64 1)) none none).run Try.prog W = .ok v' W) ∧
    (∀ W, (Instr.sliceAt 22 v (some (.int .i64 1)) none none).run Try.prog W = .ok v' W) ∧ v'.ownBlock = v.ownBlock ∧ ∀ w', (∀ g, v.ownBlock = some g → w'.heap[g]? = w.heap[g]?) → OwnQ w' base v' l := by
  obtain ⟨hw, ⟨_, h0⟩ | ⟨g, off, c, cur, rfl, hb, hh, hnc, hcm, hcs, ht⟩⟩ := h
  · cases h0
  · rw [List.length_cons] at hnc ht ⊢
    have e : ∀ W, (Instr.slice 22 (.slice (some ⟨g, off, none⟩) (l.length + 1) c) (some (.int .i64 1)) none none).run Try.prog W = .ok (.slice (if c = 1 then some ⟨g, off, none⟩ else some ⟨g, off + 1, none⟩) l.length (c - 1)) W := fun W => by
      rw [run_slice_l W _ _ _ _ sl_int .i64 1 (by omega) (by omega), size1]
      simp only [Result.andThen_ok, sliced]
      congr 3
    refine ⟨_, e, fun W => by rw [run_sliceAt_slice W _ _ _ _ _ sl_int]; exact e W, by split <;> rfl, fun w' hk => ⟨fun y hy => hw y (List.mem_cons_of_mem _ hy), .inr ?_⟩⟩
    have hh' : w'.heap[g]? = some (.cells cur 3) := (hk g rfl).trans hh
    by_cases h1 : c = 1
    · rw [if_pos h1]
      exact ⟨g, off, c - 1, cur, rfl, hb, hh', by omega, by omega, by omega, fun j hj => by omega⟩
    · rw [if_neg h1]
      refine ⟨g, off + 1, c - 1, cur, rfl, hb, hh', by omega, by omega, by omega, fun j hj => ?_⟩
      have := ht (j + 1) (by omega)
      rw [show off + 1 + j = off + (j + 1) by omega, this]
      rfl
end Go.Proofs.Ytckfobkkjiiheaa.Queue
