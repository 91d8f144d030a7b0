/- A slice of structs (or pointers) of the call's own whose beginning may have been cut off: a queue of any cells. No statement is proved here. -/
import Derived.Test.YtckfobkkjiiheaaCells
import Derived.Test.YtckfobkkjiiheaaSub
namespace Go.Proofs.Ytckfobkkjiiheaa.Cells
open Go.ChangeShapes Go.WideShapes Go.ChangeAt Go.RowKit Go.Proofs.Ytckfobkkjiiheaa.Kit Go.Proofs.Ytckfobkkjiiheaa.App
set_option linter.unusedVariables false
set_option maxRecDepth 20000
variable {τ : Type}

/-- A slice of the call's own, from some place of its block on, that holds ls. -/
def QC (L : Lay τ) (e : TypeId) (w : World) (base : Nat) (v : Value) (ls : List τ) : Prop :=
  (v = .slice none 0 0 ∧ ls = []) ∨ ∃ (g off cap : Nat) (cur : Array Value), v = .slice (some ⟨g, off, none⟩) ls.length cap ∧ base ≤ g ∧ w.heap[g]? = some (.cells cur e) ∧ ls.length ≤ cap ∧ cap ≤ maxLen ∧ off + cap * L.k ≤ cur.size ∧
    ∀ j : Nat, j < ls.length * L.k → cur[off + j]? = (L.all ls)[j]?
variable {L : Lay τ} {e : TypeId} {w w' : World} {base : Nat} {v : Value} {ls : List τ}
theorem QC.nil (L : Lay τ) (e : TypeId) (w : World) (base : Nat) : QC L e w base (.slice none 0 0) [] := .inl ⟨rfl, rfl⟩
theorem QC.of_own (h : OC L e w base v ls) : QC L e w base v ls := by
  have h0 := h
  obtain ⟨hl, ⟨rfl, hn⟩ | ⟨g, cap, cur, rfl, hb, hh, hnc, hcm, hcs, ht⟩⟩ := h
  · exact .inl ⟨rfl, List.eq_nil_of_length_eq_zero hn⟩
  · refine .inr ⟨g, 0, cap, cur, rfl, hb, hh, hnc, hcm, by rw [Nat.zero_add]; exact Nat.le_of_eq hcs.symm, fun j hj => ?_⟩
    have h1 := World.ownsRow.cellAt h0 j hj
    unfold World.cell? at h1
    rw [hh] at h1
    rw [Nat.zero_add]
    exact h1
theorem QC.form (h : QC L e w base v ls) : ∃ p cap, v = .slice p ls.length cap ∧ CI L w p cap ls := by
  obtain ⟨rfl, rfl⟩ | ⟨g, off, cap, cur, rfl, hb, hh, hnc, hcm, hcs, ht⟩ := h
  · exact ⟨none, 0, rfl, CI.nil L w⟩
  · refine ⟨_, cap, rfl, hnc, hcm, fun hn => ⟨g, off, rfl, (Array.getElem?_eq_some_iff.1 hh).1, fun j x hj i v hv => ?_⟩⟩
    have hik : i < L.k := by
      rcases Nat.lt_or_ge i (L.enc x).length with h1 | h1
      · rw [L.len] at h1; exact h1
      · rw [List.getElem?_eq_none h1] at hv; cases hv
    have hjl : j < ls.length := by
      rcases Nat.lt_or_ge j ls.length with h1 | h1
      · exact h1
      · rw [List.getElem?_eq_none h1] at hj; cases hj
    have hlt : j * L.k + i < ls.length * L.k := by
      have : (j + 1) * L.k ≤ ls.length * L.k := Nat.mul_le_mul_right _ hjl
      rw [Nat.succ_mul] at this
      omega
    unfold World.cell?
    rw [hh]
    show cur[off + (j * L.k + i)]? = _
    rw [ht _ hlt, L.all_get ls j x hj i hik]
    exact hv
theorem QC.more {row : Option Nat} (h : QC L e w base v ls) (hg : w.grownBy w' row) (hne : v.ownBlock = none ∨ v.ownBlock ≠ row) : QC L e w' base v ls := by
  obtain ⟨rfl, rfl⟩ | ⟨g, off, cap, cur, rfl, hb, hh, hnc, hcm, hcs, ht⟩ := h
  · exact QC.nil _ _ _ _
  · refine .inr ⟨g, off, cap, cur, rfl, hb, ?_, hnc, hcm, hcs, ht⟩
    rw [hg.block g (Array.getElem?_eq_some_iff.1 hh).1 (fun e => ?_)]
    · exact hh
    · rcases hne with h | h
      · simp [Value.ownBlock] at h
      · exact h (by rw [← e]; rfl)
theorem QC.same (h : QC L e w base v ls) (hk : ∀ k, v.ownBlock = some k → w'.heap[k]? = w.heap[k]?) : QC L e w' base v ls := by
  obtain ⟨rfl, rfl⟩ | ⟨g, off, cap, cur, rfl, hb, hh, hnc, hcm, hcs, ht⟩ := h
  · exact QC.nil _ _ _ _
  · exact .inr ⟨g, off, cap, cur, rfl, hb, (hk g rfl).trans hh, hnc, hcm, hcs, ht⟩
theorem QC.lt (h : QC L e w base v ls) : ∀ k, v.ownBlock = some k → base ≤ k ∧ k < w.heap.size := fun k hk => by
  obtain ⟨rfl, rfl⟩ | ⟨g, off, cap, cur, rfl, hb, hh, _⟩ := h
  · simp [Value.ownBlock] at hk
  · obtain rfl : g = k := by simpa [Value.ownBlock] using hk
    exact ⟨hb, (Array.getElem?_eq_some_iff.1 hh).1⟩

theorem run_appQC {t : TypeId} {bytes : Nat} (T : Ty L t e bytes) (w : World) (ty base : Nat) (v : Value) (xs : List τ) (p : Option Addr) (cap : Nat) (l : List τ) (hown : QC L e w base v xs) (hl : CI L w p cap l) (hlen : xs.length + l.length ≤ 1000000) (hbase : base ≤ w.heap.size) :
    ∃ v' w', (Builtin.append_ #[t, t] ty #[v, .slice p l.length cap]).run Try.prog w = .ok v' w' ∧ QC L e w' base v' (xs ++ l) ∧ w.grownBy w' v.ownBlock ∧ (v'.ownBlock = v.ownBlock ∨ v'.ownBlock = some w.heap.size) := by
  have h0 := hown
  obtain ⟨rfl, rfl⟩ | ⟨g, o, c, cur, rfl, hb, hg, hmc, hc, hfit, hxs⟩ := hown
  · obtain ⟨v', w', h1, h2, h3, h4⟩ := run_appC T w ty base (.slice none 0 0) [] p cap l (OC.nil L e w base) hl (by simp only [List.length_nil] at hlen ⊢; omega) hbase
    exact ⟨v', w', h1, QC.of_own h2, h3, h4⟩
  · obtain ⟨i, z, hi, hz, hs, hby, hzc⟩ := T.info
    cases p with
    | none =>
      have : l = [] := by
        by_cases h0 : 0 < l.length
        · obtain ⟨b, off, e, _⟩ := hl.2.2 h0; cases e
        · exact List.eq_nil_of_length_eq_zero (by omega)
      subst this
      refine ⟨_, w, ?_, by rw [List.append_nil]; exact h0, ⟨rfl, rfl, rfl, Nat.le_refl _, fun _ _ _ => rfl⟩, .inl rfl⟩
      simp [Builtin.append_, run_underlying T.sl, sizeOf, typeInfo, hi, Builtin.lenOf, Builtin.firstCells, hmc, storeCells]
    | some a =>
      have hp := L.pos
      have hnews : ∀ j u, (L.all l)[j]? = some u → w.cell? (a.add j) = some u := fun j u hu => by
        have hjl : j < (L.all l).length := by
          rcases Nat.lt_or_ge j (L.all l).length with h | h
          · exact h
          · rw [List.getElem?_eq_none h] at hu; cases hu
        rw [L.all_len] at hjl
        have h0 : 0 < l.length := by
          rcases Nat.eq_zero_or_pos l.length with h | h
          · rw [h, Nat.zero_mul] at hjl; omega
          · exact h
        obtain ⟨b, off, ea, _, hcc⟩ := hl.2.2 h0
        injection ea with ea
        subst ea
        have hq : j / L.k < l.length := Nat.div_lt_of_lt_mul (by rw [Nat.mul_comm]; exact hjl)
        have hm : j % L.k < L.k := Nat.mod_lt _ hp
        have hj : j / L.k * L.k + j % L.k = j := by rw [Nat.mul_comm]; exact Nat.div_add_mod j L.k
        have hx : l[j / L.k]? = some l[j / L.k] := List.getElem?_eq_getElem hq
        have hgg := L.all_get l (j / L.k) _ hx (j % L.k) hm
        rw [hj, hu] at hgg
        have := hcc (j / L.k) _ hx (j % L.k) u hgg.symm
        rw [hj] at this
        rw [add_plain]
        exact this
      have hone := L.all_one l
      have hln : (L.all l).length = l.length * i.size := by rw [L.all_len, hs]
      by_cases hroom : xs.length + l.length ≤ c
      · have hsz : o + (xs.length * L.k) + (l.length * L.k) ≤ cur.size := by
          have : (xs.length + l.length) * L.k ≤ c * L.k := Nat.mul_le_mul_right _ hroom
          rw [Nat.add_mul] at this
          omega
        have hf := run_firstCells_some (P := Try.prog) w i.size l.length a l.length cap (L.all l) hln hnews
        have hst := run_storeCells_at Try.prog g (o + xs.length * L.k) e (L.all l) 0 cur w hg (by rw [L.all_len]; omega) hone
        simp only [Nat.add_zero] at hst
        rw [hs] at hf
        obtain ⟨R, hR⟩ : ∃ R, (cur.toList.take (o + xs.length * L.k) ++ L.all l ++ cur.toList.drop (o + xs.length * L.k + (L.all l).length)).toArray = R := ⟨_, rfl⟩
        rw [hR] at hst
        refine ⟨.slice (some ⟨g, o, none⟩) (xs.length + l.length) c, w.setRow g R, ?_, .inr ⟨g, o, c, R, by rw [List.length_append], hb, ?_, by rw [List.length_append]; exact hroom, hc, ?_, fun j hj => ?_⟩, ?_, .inl rfl⟩
        · simp [Builtin.append_, run_underlying T.sl, sizeOf, typeInfo, hi, Builtin.lenOf, hroom, hf, hs, add_plain, hst]
        · simp [World.setRow, Array.getElem?_modify, hg]
        · have e1 : R.size = cur.size := by
            rw [← hR, List.size_toArray, List.length_append, List.length_append, List.length_take, List.length_drop, show cur.toList.length = cur.size from Array.length_toList, L.all_len, Nat.min_eq_left (by omega)]
            omega
          rw [e1]; exact hfit
        · have hcl : (cur.toList.take (o + xs.length * L.k)).length = o + xs.length * L.k := by rw [List.length_take, show cur.toList.length = cur.size from Array.length_toList]; exact Nat.min_eq_left (by omega)
          rw [← hR, List.getElem?_toArray, List.append_assoc, L.all_append]
          rw [List.length_append, Nat.add_mul] at hj
          by_cases h1 : j < xs.length * L.k
          · rw [List.getElem?_append_left (by rw [hcl]; omega), List.getElem?_take, if_pos (by omega), Array.getElem?_toList, hxs j h1, List.getElem?_append_left (by rw [L.all_len]; exact h1)]
          · have e1 : o + j - (o + xs.length * L.k) = j - xs.length * L.k := by omega
            rw [List.getElem?_append_right (by rw [hcl]; omega), hcl, e1, List.getElem?_append_left (by rw [L.all_len]; omega), List.getElem?_append_right (by rw [L.all_len]; omega), L.all_len]
        · refine ⟨rfl, rfl, rfl, by simp [World.setRow], fun q hq hne => ?_⟩
          simp only [World.setRow, Array.getElem?_modify]
          rw [if_neg (fun e => hne (by rw [e]; rfl))]
      · have holds : ∀ j u, (L.all xs)[j]? = some u → w.cell? ((⟨g, o, none⟩ : Addr).add j) = some u := fun j u hu => by
          have hjl : j < (L.all xs).length := by
            rcases Nat.lt_or_ge j (L.all xs).length with h | h
            · exact h
            · rw [List.getElem?_eq_none h] at hu; cases hu
          rw [L.all_len] at hjl
          rw [add_plain]
          unfold World.cell?
          rw [hg]
          show cur[o + j]? = _
          rw [hxs j hjl, hu]
        have hbound : (xs.length + l.length) * i.bytes ≤ 140737488355328 := by
          rw [hby]
          exact Nat.le_trans (Nat.mul_le_mul hlen T.small) (by omega)
        have hrun := run_append_grow (P := Try.prog) w t ty e i z T.sl hi hz ⟨g, o, none⟩ xs.length c (L.all xs) (by rw [L.all_len, hs]) holds
          a l.length cap (L.all l) hln hnews (by omega) (by omega) (growslice_fits (by omega) hbound)
        have hgc : xs.length + l.length ≤ grownCap w (xs.length + l.length) c e ∧ grownCap w (xs.length + l.length) c e ≤ maxLen := ⟨grownCap_ge _ _ _ _, grownCap_le_maxLen _ _ _ _ (by unfold maxLen; omega)⟩
        refine ⟨_, _, hrun, .inr ⟨w.heap.size, 0, grownCap w (xs.length + l.length) c e, _, by rw [List.length_append], hbase, alloc_new w.drew _, by rw [List.length_append]; exact hgc.1, hgc.2, ?_, fun j hj => ?_⟩, ⟨rfl, rfl, rfl, by simp, fun q hq _ => Below.heap_alloc w.drew _ q hq⟩, .inr rfl⟩
        · rw [Array.size_append, Array.size_append, size_zeroCells, hzc, List.size_toArray, List.size_toArray, L.all_len, L.all_len, ← Nat.add_mul, ← Nat.add_mul, Nat.zero_add]
          exact Nat.mul_le_mul_right _ (by omega)
        · rw [Nat.zero_add, L.all_append]
          simp only [List.length_append, Nat.add_mul] at hj
          rw [Array.getElem?_append_left (by rw [Array.size_append, List.size_toArray, List.size_toArray, L.all_len, L.all_len]; exact hj)]
          by_cases h1 : j < xs.length * L.k
          · rw [Array.getElem?_append_left (by rw [List.size_toArray, L.all_len]; exact h1), List.getElem?_append_left (by rw [L.all_len]; exact h1), List.getElem?_toArray]
          · rw [Array.getElem?_append_right (by rw [List.size_toArray, L.all_len]; omega), List.getElem?_append_right (by rw [L.all_len]; omega), List.getElem?_toArray, List.size_toArray]

theorem wp_appQC {t : TypeId} {bytes : Nat} (T : Ty L t e bytes) {w : World} {ops : Array Oper} {rest : List Oper} {o : Oper} {a : Act} {Q : Exit → Act → World → Prop} (hgd : o.guard = none) (s x : Operand)
    (ho : o.op = .call { callee := .builtin .append, args := #[s, x], argTypes := #[t, t] })
    (base : Nat) (v : Value) (xs : List τ) (p : Option Addr) (cap n : Nat) (l : List τ) (hs : a.eval s = v) (hown : QC L e w base v xs) (hx : a.eval x = .slice p n cap) (hn : n = l.length) (hl : CI L w p cap l)
    (hlen : xs.length + l.length ≤ 1000000) (hbase : base ≤ w.heap.size)
    (h : ∀ v' w', QC L e w' base v' (xs ++ l) → w.grownBy w' v.ownBlock → (v'.ownBlock = v.ownBlock ∨ v'.ownBlock = some w.heap.size) → wpList Try.prog ops Q rest (a.put o.dst v') w') :
    wpList Try.prog ops Q (o :: rest) a w := by
  refine wpList_plain hgd fun _ hK => ?_
  obtain ⟨v', w', hrun, h2, h3, h4⟩ := run_appQC T w o.type base v xs p cap l hown hl hlen hbase
  unfold Oper.wp execOp
  rw [hn] at hx
  simp only [ho, resolve, invoke, builtin, Sem.run_bind, Sem.run_pure, Result.andThen_ok, List.map_toArray, List.map_cons, List.map_nil, hs, hx, hrun]
  exact hK _ _ (h v' w' h2 h3 h4)
theorem below_appQC {W : World} {xs : List τ} (hb : Below base W w) (hown : QC L e w base v xs) (hg : w.grownBy w' v.ownBlock) (hB : base ≤ w.heap.size) : Below base W w' :=
  hb.grown hg hB (fun k hk => (hown.lt k hk).1)

/-- 'q[1:]': what the walk wants, and what is left. -/
theorem QC.tail {t : TypeId} {bytes : Nat} (T : Ty L t e bytes) (he : Try.prog.elem t = e) {x : τ} (h : QC L e w base v (x :: ls)) : ∃ v', (∀ W, (Instr.slice t v (some (.int .i64 1)) none none).run Try.prog W = .ok v' W) ∧
    v'.ownBlock = v.ownBlock ∧ ∀ w', (∀ g, v.ownBlock = some g → w'.heap[g]? = w.heap[g]?) → QC L e w' base v' ls := by
  obtain ⟨i, z, hi, hz, hs, hby, hzc⟩ := T.info
  obtain ⟨_, h0⟩ | ⟨g, off, c, cur, rfl, hb, hh, hnc, hcm, hcs, ht⟩ := h
  · cases h0
  · rw [List.length_cons] at hnc ht ⊢
    have hk := L.pos
    have e1 : ∀ W, (Instr.slice t (.slice (some ⟨g, off, none⟩) (ls.length + 1) c) (some (.int .i64 1)) none none).run Try.prog W = .ok (.slice (if c = 1 then some ⟨g, off, none⟩ else some ⟨g, off + L.k, none⟩) ls.length (c - 1)) W := fun W => by
      have hsl : Try.prog.underlying t = some (.slice (Try.prog.elem t)) := by rw [he]; exact T.sl
      have hsz : (sizeOf (Try.prog.elem t)).run Try.prog W = .ok L.k W := by
        rw [he]
        simp only [sizeOf, typeInfo, Sem.run_bind, run_program, Result.andThen_ok, hi, hs, Sem.run_pure]
      rw [run_slice_l W _ _ _ _ hsl .i64 1 (by omega) (by omega), hsz]
      simp only [Result.andThen_ok, sliced]
      rw [show (1 : Int).toNat = 1 from rfl, Nat.one_mul, Nat.add_sub_cancel]
      congr 2
      split
      · rfl
      · simp [add_plain]
    refine ⟨_, e1, by split <;> rfl, fun w' hk' => .inr ?_⟩
    have hh' : w'.heap[g]? = some (.cells cur e) := (hk' g rfl).trans hh
    have hall : L.all (x :: ls) = L.enc x ++ L.all ls := rfl
    by_cases h1 : c = 1
    · rw [if_pos h1]
      have hl0 : ls.length = 0 := by omega
      exact ⟨g, off, c - 1, cur, rfl, hb, hh', by omega, by omega, by rw [h1, Nat.sub_self, Nat.zero_mul]; rw [h1] at hcs; omega, fun j hj => by rw [hl0] at hj; omega⟩
    · rw [if_neg h1]
      have hc1 : (c - 1) * L.k + L.k = c * L.k := by
        obtain ⟨d, rfl⟩ : ∃ d, c = d + 1 := ⟨c - 1, by omega⟩
        rw [Nat.add_sub_cancel, Nat.succ_mul]
      refine ⟨g, off + L.k, c - 1, cur, rfl, hb, hh', by omega, by omega, by omega, fun j hj => ?_⟩
      have := ht (L.k + j) (by rw [Nat.succ_mul]; omega)
      rw [hall, List.getElem?_append_right (by rw [L.len]; omega), L.len, Nat.add_sub_cancel_left] at this
      rw [show off + L.k + j = off + (L.k + j) by omega, this]
end Go.Proofs.Ytckfobkkjiiheaa.Cells
