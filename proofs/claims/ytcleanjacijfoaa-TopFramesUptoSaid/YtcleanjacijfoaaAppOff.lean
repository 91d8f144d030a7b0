/- Helpers: append onto a part of a slice of the call's own. No statement is proved here. -/
import Derived.Test.YtcleanjacijfoaaApp
import Derived.Test.YtcleanjacijfoaaBase
import Derived.Laws.CopyRow
namespace Go.Proofs.Ytcleanjacijfoaa.App
open Go.ChangeShapes Go.WideShapes Go.ChangeAt Go.RowKit Go.Proofs.Ytcleanjacijfoaa.Kit
set_option linter.unusedVariables false
set_option maxRecDepth 20000

theorem wf_zero : (Lit.int .i64 0).wf = true := by simp [Lit.wf, IntKind.min, IntKind.max, IntKind.signed, IntKind.bits]
theorem wf_get {l : List Int} (h : ∀ x ∈ l, (Lit.int .i64 x).wf = true) (j : Nat) : (Lit.int .i64 (l[j]?.getD 0)).wf = true := by
  by_cases hj : j < l.length
  · rw [List.getElem?_eq_getElem hj]; exact h _ (List.getElem_mem hj)
  · rw [List.getElem?_eq_none (by omega)]; exact wf_zero
theorem ints_wf {w : World} {p : Option Addr} {cap : Nat} {l : List Int} (h : Ints w p cap l) : ∀ x ∈ l, (Lit.int .i64 x).wf = true := fun x hx => by
  obtain ⟨j, hj, rfl⟩ := List.getElem_of_mem hx
  have := h.2.2.1 j
  rwa [List.getElem?_eq_getElem hj] at this


/-- A row whose first cells are the list's reads as the list. -/
theorem ints_row {w : World} {g o cap : Nat} {cs : Array Value} {l : List Int} (hh : w.heap[g]? = some (.cells cs 3)) (hc : l.length ≤ cap) (hm : cap ≤ maxLen) (hw : ∀ x ∈ l, (Lit.int .i64 x).wf = true)
    (hcs : ∀ j : Nat, j < l.length → cs[o + j]? = some (.int .i64 (l[j]?.getD 0))) : Ints w (some ⟨g, o, none⟩) cap l :=
  ⟨hc, hm, wf_get hw, fun _ => ⟨g, o, rfl, (Array.getElem?_eq_some_iff.1 hh).1, fun j hj => by
    unfold World.cell?
    rw [hh]
    exact hcs j hj⟩⟩

theorem run_off (w : World) (ty base g o m c : Nat) (cur : Array Value) (xs : List Int) (a : Addr) (k c2 : Nat) (ys : List Int) (hg : w.heap[g]? = some (.cells cur 3)) (hb : base ≤ g) (hbs : base ≤ w.heap.size)
    (hm : m = xs.length) (hmc : m ≤ c) (hc : c ≤ maxLen) (hfit : o + c ≤ cur.size) (hxs : ∀ j : Nat, j < m → cur[o + j]? = some (.int .i64 (xs[j]?.getD 0))) (hxw : ∀ x ∈ xs, (Lit.int .i64 x).wf = true)
    (hk : k = ys.length) (hys : Ints w (some a) c2 ys) (hlen : xs.length + ys.length ≤ 1000000) :
    ∃ p' cap' w', (Builtin.append_ #[22, 22] ty #[.slice (some ⟨g, o, none⟩) m c, .slice (some a) k c2]).run Try.prog w = .ok (.slice p' (m + k) cap') w' ∧ Ints w' p' cap' (xs ++ ys) ∧ w.grownBy w' (some g) := by
  obtain ⟨i, hi, hz, hs, hby⟩ := info_parts info_int
  subst hm; subst hk
  have hyw := ints_wf hys
  have hnews : ∀ j u, (ys.map (Value.int .i64))[j]? = some u → w.cell? (a.add j) = some u := fun j u hu => by
    rw [List.getElem?_map] at hu
    have hj : j < ys.length := by
      rcases Nat.lt_or_ge j ys.length with h | h
      · exact h
      · rw [List.getElem?_eq_none h] at hu; cases hu
    obtain ⟨b, off, e, _, hcc⟩ := hys.2.2.2 (by omega)
    injection e with e
    subst e
    rw [add_plain, hcc j hj, ← hu, List.getElem?_eq_getElem hj]; rfl
  have hxyw : ∀ x ∈ xs ++ ys, (Lit.int .i64 x).wf = true := fun x hx => (List.mem_append.1 hx).elim (hxw x) (hyw x)
  by_cases hroom : xs.length + ys.length ≤ c
  · have hf := run_firstCells_some (P := Try.prog) w i.size ys.length a ys.length c2 (ys.map (Value.int .i64)) (by simp [hs]) hnews
    have hst := run_storeCells_at Try.prog g (o + xs.length) 3 (ys.map (Value.int .i64)) 0 cur w hg (by simp; omega) (fun u hu => by simp at hu; obtain ⟨x, _, rfl⟩ := hu; rfl)
    simp only [Nat.add_zero] at hst
    rw [hs] at hf
    obtain ⟨R, hR⟩ : ∃ R, (cur.toList.take (o + xs.length) ++ ys.map (Value.int .i64) ++ cur.toList.drop (o + xs.length + (ys.map (Value.int .i64)).length)).toArray = R := ⟨_, rfl⟩
    rw [hR] at hst
    refine ⟨some ⟨g, o, none⟩, c, w.setRow g R, ?_, ?_, ?_⟩
    · simp [Builtin.append_, run_underlying Try.underlying22, sizeOf, typeInfo, hi, Builtin.lenOf, hroom, hf, hs, add_plain, hst]
    · refine ints_row (g := g) (cs := R) ?_ (by rw [List.length_append]; exact hroom) hc hxyw (fun j hj => ?_)
      · simp [World.setRow, Array.getElem?_modify, hg]
      · have hcl : (cur.toList.take (o + xs.length)).length = o + xs.length := by rw [List.length_take, Array.length_toList]; exact Nat.min_eq_left (Nat.le_trans (Nat.add_le_add_left hmc o) hfit)
        rw [← hR, List.getElem?_toArray, List.append_assoc]
        rw [List.length_append] at hj
        by_cases h1 : j < xs.length
        · rw [List.getElem?_append_left (by rw [hcl]; omega), List.getElem?_take, if_pos (by omega), Array.getElem?_toList, hxs j h1, List.getElem?_append_left h1]
        · have e1 : o + j - (o + xs.length) = j - xs.length := by omega
          have e2 : j - xs.length < ys.length := by omega
          rw [List.getElem?_append_right (by rw [hcl]; omega), hcl, e1, List.getElem?_append_left (by rw [List.length_map]; exact e2), List.getElem?_map, List.getElem?_append_right (Nat.le_of_not_lt h1), List.getElem?_eq_getElem e2]
          rfl
    · refine ⟨rfl, rfl, rfl, by simp [World.setRow], fun q hq hne => ?_⟩
      simp only [World.setRow, Array.getElem?_modify]
      rw [if_neg (fun e => hne (by rw [e]))]
  · have hrun := run_append_grow (P := Try.prog) w 22 ty 3 i (.int .i64 0) Try.underlying22 hi hz ⟨g, o, none⟩ xs.length c (xs.map (Value.int .i64)) (by simp [hs]) (fun j u hu => by
        rw [List.getElem?_map] at hu
        have hj : j < xs.length := by
          rcases Nat.lt_or_ge j xs.length with h | h
          · exact h
          · rw [List.getElem?_eq_none h] at hu; cases hu
        rw [add_plain]
        unfold World.cell?
        rw [hg, ← hu]
        show cur[o + j]? = _
        rw [hxs j hj, List.getElem?_eq_getElem hj]; rfl)
      a ys.length c2 (ys.map (Value.int .i64)) (by simp [hs]) hnews (by omega) (by omega) (growslice_fits (by omega) (by rw [hby]; omega))
    refine ⟨_, _, _, hrun, ?_, ⟨rfl, rfl, rfl, by simp, fun q hq _ => Below.heap_alloc w.drew _ q hq⟩⟩
    have hgc : xs.length + ys.length ≤ grownCap w (xs.length + ys.length) c 3 ∧ grownCap w (xs.length + ys.length) c 3 ≤ maxLen := ⟨grownCap_ge _ _ _ _, grownCap_le_maxLen _ _ _ _ (by unfold maxLen; omega)⟩
    refine ints_row (g := w.heap.size) (o := 0) (alloc_new w.drew _) (by rw [List.length_append]; exact hgc.1) hgc.2 hxyw (fun j hj => ?_)
    rw [Nat.zero_add]
    simp only [List.length_append] at hj
    by_cases h1 : j < xs.length
    · rw [Array.getElem?_append_left (by simp; omega), Array.getElem?_append_left (by simpa using h1), List.getElem?_append_left h1]
      simp [h1]
    · rw [Array.getElem?_append_left (by simp; omega), Array.getElem?_append_right (by simp; omega), List.getElem?_append_right (by omega)]
      have h2 : j - xs.length < ys.length := by omega
      simp [h2]

theorem wp_off {w : World} {ops : Array Oper} {rest : List Oper} {o : Oper} {a : Act} {Q : Exit → Act → World → Prop} (hgd : o.guard = none) (s x : Operand)
    (ho : o.op = .call { callee := .builtin .append, args := #[s, x], argTypes := #[22, 22] })
    (base g off m c : Nat) (cur : Array Value) (xs : List Int) (ad : Addr) (k c2 : Nat) (ys : List Int) (hs : a.eval s = .slice (some ⟨g, off, none⟩) m c) (hx : a.eval x = .slice (some ad) k c2)
    (hg : w.heap[g]? = some (.cells cur 3)) (hb : base ≤ g) (hbs : base ≤ w.heap.size)
    (hm : m = xs.length) (hmc : m ≤ c) (hc : c ≤ maxLen) (hfit : off + c ≤ cur.size) (hxs : ∀ j : Nat, j < m → cur[off + j]? = some (.int .i64 (xs[j]?.getD 0))) (hxw : ∀ x ∈ xs, (Lit.int .i64 x).wf = true)
    (hk : k = ys.length) (hys : Ints w (some ad) c2 ys) (hlen : xs.length + ys.length ≤ 1000000)
    (h : ∀ p' cap' w', Ints w' p' cap' (xs ++ ys) → w.grownBy w' (some g) → wpList Try.prog ops Q rest (a.put o.dst (.slice p' (m + k) cap')) w') :
    wpList Try.prog ops Q (o :: rest) a w := by
  refine wpList_plain hgd fun _ hK => ?_
  obtain ⟨p', cap', w', hrun, h2, h3⟩ := run_off w o.type base g off m c cur xs ad k c2 ys hg hb hbs hm hmc hc hfit hxs hxw hk hys hlen
  unfold Oper.wp execOp
  simp only [ho, resolve, invoke, builtin, Sem.run_bind, Sem.run_pure, Result.andThen_ok, List.map_toArray, List.map_cons, List.map_nil, hs, hx, hrun]
  exact hK _ _ (h p' cap' w' h2 h3)
end Go.Proofs.Ytcleanjacijfoaa.App
