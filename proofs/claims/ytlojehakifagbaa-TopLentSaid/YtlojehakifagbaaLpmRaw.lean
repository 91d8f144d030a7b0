/- A table's block while it is written: routes moved, set, counted. No statement is proved here. -/
import Derived.Test.YtlojehakifagbaaLpmArr
import Derived.Laws.CopyRow
import Derived.Laws.IdiomCopy
namespace Go.Proofs.Ytlojehakifagbaa.Lpm
open Go.ChangeShapes Go.WideShapes Go.ChangeAt Go.RowKit Go.Sort Go.Proofs.Ytlojehakifagbaa.Kit Go.Proofs.Ytlojehakifagbaa.App Go.Proofs.Ytlojehakifagbaa.Cells Go.Proofs.Ytlojehakifagbaa.Cidr Go.Proofs.Ytlojehakifagbaa.CidrMath Go.Proofs.Ytlojehakifagbaa.RouteMath Go.Proofs.Ytlojehakifagbaa.Route
set_option linter.unusedVariables false
set_option maxRecDepth 20000

theorem all_take (A : List Rt) (k : Nat) : layR.all (A.take k) = (layR.all A).take (k * 3) := by
  rcases Nat.lt_or_ge A.length k with h | h
  · rw [List.take_of_length_le (by omega), List.take_of_length_le (by rw [layR.all_len]; show A.length * 3 ≤ k * 3; omega)]
  · conv => rhs; rw [← List.take_append_drop k A, layR.all_append]
    rw [List.take_left' (by rw [layR.all_len, List.length_take]; show min k A.length * 3 = k * 3; omega)]
theorem all_drop (A : List Rt) (k : Nat) : layR.all (A.drop k) = (layR.all A).drop (k * 3) := by
  rcases Nat.lt_or_ge A.length k with h | h
  · rw [List.drop_eq_nil_of_le (by omega), List.drop_eq_nil_of_le (by rw [layR.all_len]; show A.length * 3 ≤ k * 3; omega)]; rfl
  · conv => rhs; rw [← List.take_append_drop k A, layR.all_append]
    rw [List.drop_left' (by rw [layR.all_len, List.length_take]; show min k A.length * 3 = k * 3; omega)]
theorem all_setR : ∀ (A : List Rt) (k : Nat) (x : Rt), k < A.length → layR.all (A.set k x) = (((layR.all A).set (k * 3) (.int .i64 x.adr)).set (k * 3 + 1) (.int .i64 x.len)).set (k * 3 + 2) (.int .i64 x.hop)
  | [], k, x, h => by simp at h
  | z :: A, 0, x, h => rfl
  | z :: A, k + 1, x, h => by
    have ih := all_setR A k x (by simpa using h)
    have e : ∀ B, layR.all (z :: B) = layR.enc z ++ layR.all B := fun _ => rfl
    rw [List.set_cons_succ, e, e, ih]
    rw [List.set_append_right _ _ (by rw [layR.len]; show 3 ≤ _; omega), List.set_append_right _ _ (by rw [layR.len]; show 3 ≤ _; omega), List.set_append_right _ _ (by rw [layR.len]; show 3 ≤ _; omega)]
    rw [layR.len]
    show _ = layR.enc z ++ (((layR.all A).set ((k + 1) * 3 - 3) _).set ((k + 1) * 3 + 1 - 3) _).set ((k + 1) * 3 + 2 - 3) _
    rw [show (k + 1) * 3 - 3 = k * 3 by omega, show (k + 1) * 3 + 1 - 3 = k * 3 + 1 by omega, show (k + 1) * 3 + 2 - 3 = k * 3 + 2 by omega]
/-- A table's block: 32 routes, and a number. -/
def RawT (w : World) (g : Nat) (A : List Rt) (n : Int) : Prop := A.length = 32 ∧ w.heap[g]? = some (.cells (layR.all A ++ [Value.int .i64 n]).toArray 61)
theorem Tab.raw {w : World} {g : Nat} {l : List Rt} (h : Tab w g l) : ∃ rest, l.length + rest.length = 32 ∧ RawT w g (l ++ rest) l.length := by
  obtain ⟨rest, h1, h2⟩ := h
  exact ⟨rest, h1, by rw [List.length_append]; exact h1, h2⟩
theorem RawT.tab {w : World} {g : Nat} {l rest : List Rt} {n : Int} (h : RawT w g (l ++ rest) n) (hn : n = l.length) : Tab w g l := by
  subst hn
  exact ⟨rest, by have := h.1; rw [List.length_append] at this; exact this, h.2⟩
theorem RawT.lt {w : World} {g : Nat} {A : List Rt} {n : Int} (h : RawT w g A n) : g < w.heap.size := (Array.getElem?_eq_some_iff.1 h.2).1
theorem RawT.drew {w : World} {g : Nat} {A : List Rt} {n : Int} (h : RawT w g A n) : RawT w.drew g A n := h
theorem RawT.frozen {w : World} {g : Nat} {A : List Rt} {n : Int} (h : RawT w g A n) (j : Nat) : w.frozen? ⟨g, j, none⟩ = false := by
  unfold World.frozen?
  rw [h.2]
  simp
theorem RawT.len {w : World} {g : Nat} {A : List Rt} {n : Int} (h : RawT w g A n) : (layR.all A).length = 96 := by rw [layR.all_len, h.1]; rfl
theorem RawT.count {w : World} {g : Nat} {A : List Rt} {n : Int} (h : RawT w g A n) : w.cell? ⟨g, 96, none⟩ = some (.int .i64 n) := by
  have hl := h.len
  unfold World.cell?
  rw [h.2]
  show (layR.all A ++ [Value.int .i64 n]).toArray[96]? = _
  rw [List.getElem?_toArray, List.getElem?_append_right (by omega), hl]
  rfl
theorem RawT.cell {w : World} {g : Nat} {A : List Rt} {n : Int} (h : RawT w g A n) {k : Nat} {x : Rt} (hx : A[k]? = some x) {i : Nat} {v : Value} (hv : (layR.enc x)[i]? = some v) : w.cell? ⟨g, k * 3 + i, none⟩ = some v := by
  have hl := h.len
  have h1 := h.1
  have hk := lt_len hx
  have hi : i < 3 := by
    rcases Nat.lt_or_ge i 3 with h | h
    · exact h
    · rw [List.getElem?_eq_none (by rw [layR.len]; exact h)] at hv; cases hv
  unfold World.cell?
  rw [h.2]
  show (layR.all A ++ [Value.int .i64 n]).toArray[k * 3 + i]? = _
  rw [List.getElem?_toArray, List.getElem?_append_left (by omega)]
  exact (layR.all_get A k x hx i hi).trans hv
theorem grown_set (W : World) (b o : Nat) (v : Value) : W.grownBy (W.setCell ⟨b, o, none⟩ v) (some b) :=
  ⟨rfl, rfl, rfl, by simp, fun k hk hne => by
    unfold World.setCell
    simp only
    rw [Array.getElem?_modify, if_neg (fun e => hne (by rw [e]))]⟩
theorem grown_drew (W : World) (row : Option Nat) : W.grownBy W.drew row := ⟨rfl, rfl, rfl, Nat.le_refl _, fun _ _ _ => rfl⟩
theorem grown_trans {a b c : World} {row : Option Nat} (h : a.grownBy b row) (k : b.grownBy c row) : a.grownBy c row :=
  ⟨k.os.trans h.os, k.tape.trans h.tape, k.output.trans h.output, Nat.le_trans h.size k.size, fun j hj hne => (k.block j (Nat.lt_of_lt_of_le hj h.size) hne).trans (h.block j hj hne)⟩
theorem grown_below {a b : World} {B : Nat} {row : Option Nat} (h : Below B a b) (hB : a.heap.size ≤ B) : a.grownBy b row :=
  ⟨h.os, h.tape, h.output, h.size, fun j hj _ => h.block j (by omega)⟩
theorem RawT.put {w : World} {g : Nat} {A : List Rt} {n : Int} (h : RawT w g A n) (j : Nat) (v : Value) : (w.setCell ⟨g, j, none⟩ v).heap[g]? = some (.cells ((layR.all A ++ [Value.int .i64 n]).set j v).toArray 61) := by
  rw [setCell_eq_setRow w g j _ _ _ v h.2, setRow_heap w g _ _ _ _ h.2]
  simp
theorem put_again {w : World} {g : Nat} {B : List Value} {t : TypeId} (h : w.heap[g]? = some (.cells B.toArray t)) (j : Nat) (v : Value) : (w.setCell ⟨g, j, none⟩ v).heap[g]? = some (.cells (B.set j v).toArray t) := by
  rw [setCell_eq_setRow w g j _ _ _ v h, setRow_heap w g _ _ _ _ h]
  simp
theorem RawT.recount {w : World} {g : Nat} {A : List Rt} {n : Int} (h : RawT w g A n) (m : Int) : RawT (w.setCell ⟨g, 96, none⟩ (.int .i64 m)) g A m := by
  refine ⟨h.1, (h.put 96 _).trans ?_⟩
  rw [List.set_append_right _ _ (by rw [h.len]; omega), h.len]
  rfl
theorem RawT.store {w : World} {g : Nat} {A : List Rt} {n : Int} (h : RawT w g A n) (k : Nat) (hk : k < 32) (a b c : Int) :
    RawT (((w.setCell ⟨g, k * 3, none⟩ (.int .i64 a)).setCell ⟨g, k * 3 + 1, none⟩ (.int .i64 b)).setCell ⟨g, k * 3 + 2, none⟩ (.int .i64 c)) g (A.set k ⟨a, b, c⟩) n := by
  have h1 := h.1
  have hl := h.len
  refine ⟨by rw [List.length_set]; exact h1, (put_again (put_again (h.put _ _) _ _) _ _).trans ?_⟩
  rw [all_setR A k ⟨a, b, c⟩ (by omega)]
  rw [List.set_append_left _ _ (by omega), List.set_append_left _ _ (by rw [List.length_set]; omega), List.set_append_left _ _ (by rw [List.length_set, List.length_set]; omega)]
theorem grown_store (w : World) (g k : Nat) (a b c : Value) : w.grownBy (((w.setCell ⟨g, k * 3, none⟩ a).setCell ⟨g, k * 3 + 1, none⟩ b).setCell ⟨g, k * 3 + 2, none⟩ c).drew (some g) :=
  grown_trans (grown_trans (grown_trans (grown_set _ _ _ _) (grown_set _ _ _ _)) (grown_set _ _ _ _)) (grown_drew _ _)
/-- What a walk wants to know of the cells of one route. -/
theorem RawT.cells {w : World} {g : Nat} {A : List Rt} {n : Int} (h : RawT w g A n) (k : Nat) (hk : k < 32) : ∃ x : Rt, A[k]? = some x ∧ w.cell? ⟨g, k * 3, none⟩ = some (.int .i64 x.adr) ∧ w.cell? ⟨g, k * 3 + 1, none⟩ = some (.int .i64 x.len) ∧ w.cell? ⟨g, k * 3 + 2, none⟩ = some (.int .i64 x.hop) := by
  have h1 := h.1
  have hx : A[k]? = some A[k] := List.getElem?_eq_getElem (by omega)
  exact ⟨_, hx, h.cell hx (i := 0) rfl, h.cell hx (i := 1) rfl, h.cell hx (i := 2) rfl⟩
/-- Routes moved within a table. -/
def mv (A : List Rt) (d s m : Nat) : List Rt := A.take d ++ (A.drop s).take m ++ A.drop (d + m)
theorem mv_len (A : List Rt) (d s m : Nat) (h : A.length = 32) (hd : d + m ≤ 32) (hs : s + m ≤ 32) : (mv A d s m).length = 32 := by
  unfold mv
  rw [List.length_append, List.length_append, List.length_take, List.length_take, List.length_drop, List.length_drop, h]; omega
theorem run_copyR {w : World} {g : Nat} {A : List Rt} {n : Int} (h : RawT w g A n) (ty d s m dl dc sl sc : Nat) (p q : Addr) (hd : d + m ≤ 32) (hs : s + m ≤ 32) (hp : 0 < m → p = ⟨g, d * 3, none⟩) (hq : 0 < m → q = ⟨g, s * 3, none⟩) (hm : m = min sl dl) :
    ∃ w', (Builtin.copy_ #[44, 44] ty #[.slice (some p) dl dc, .slice (some q) sl sc]).run Try.prog w = .ok (goInt m) w' ∧ RawT w' g (mv A d s m) n ∧ w.grownBy w' (some g) := by
  obtain ⟨i, z, hi, hz, hsz, hby, hzc⟩ := tyR.info
  have hsz3 : i.size = 3 := hsz
  have hn : Nat.min sl dl = m := hm.symm
  rcases Nat.eq_zero_or_pos m with h0 | h0
  · subst h0
    refine ⟨w, ?_, ?_, ⟨rfl, rfl, rfl, Nat.le_refl _, fun _ _ _ => rfl⟩⟩
    · have hl0 : (loadCells q 0).run Try.prog w = .ok #[] w := run_loadCells_list (P := Try.prog) w q [] (fun j v hj => by simp at hj)
      have hs0 : (storeCells p []).run Try.prog w = .ok () w := rfl
      simp [Builtin.copy_, run_underlying tyR.sl, Builtin.lenOf, Builtin.firstCells, sizeOf, typeInfo, hi, hn, hl0, hs0]
    · unfold mv
      simpa using h
  · have hpp := hp h0
    have hqq := hq h0
    subst hpp
    subst hqq
    have h1 := h.1
    have hlen : (layR.all ((A.drop s).take m)).length = m * 3 := by
      rw [layR.all_len, List.length_take, List.length_drop, h1]; show min m (32 - s) * 3 = m * 3; omega
    have hl := run_loadCells_list (P := Try.prog) w ⟨g, s * 3, none⟩ (layR.all ((A.drop s).take m)) (fun j v hj => by
      rw [add_plain]
      have hjl : j < m * 3 := by
        rcases Nat.lt_or_ge j (m * 3) with h | h
        · exact h
        · rw [List.getElem?_eq_none (by omega)] at hj; cases hj
      rw [all_take, all_drop, List.getElem?_take, if_pos hjl, List.getElem?_drop] at hj
      unfold World.cell?
      rw [h.2]
      show (layR.all A ++ [Value.int .i64 n]).toArray[s * 3 + j]? = _
      rw [List.getElem?_toArray, List.getElem?_append_left (by rw [h.len]; omega)]
      exact hj)
    have hst := run_storeCells_at Try.prog g (d * 3) 61 (layR.all ((A.drop s).take m)) 0 _ w h.2 (by rw [hlen]; simp [h.len]; omega) (layR.all_one _)
    rw [hlen] at hl hst
    obtain ⟨C, hC⟩ : ∃ C, layR.all ((A.drop s).take m) = C := ⟨_, rfl⟩
    rw [hC] at hl hst
    obtain ⟨R, hR⟩ : ∃ R, w.setRow g (List.take (d * 3 + 0) (layR.all A ++ [Value.int .i64 n]).toArray.toList ++ C ++ List.drop (d * 3 + 0 + m * 3) (layR.all A ++ [Value.int .i64 n]).toArray.toList).toArray = R := ⟨_, rfl⟩
    rw [hR] at hst
    refine ⟨R, ?_, ⟨mv_len A d s m h1 hd hs, ?_⟩, ?_⟩
    · simp [Builtin.copy_, run_underlying tyR.sl, Builtin.lenOf, Builtin.firstCells, sizeOf, typeInfo, hi, hsz3, hn, hl, hst]
    · rw [← hR, setRow_heap w g _ _ _ _ h.2, ← hC]
      have e : List.take (d * 3 + 0) (layR.all A ++ [Value.int .i64 n]).toArray.toList ++ layR.all ((A.drop s).take m) ++ List.drop (d * 3 + 0 + m * 3) (layR.all A ++ [Value.int .i64 n]).toArray.toList = layR.all (mv A d s m) ++ [Value.int .i64 n] := by
        unfold mv
        rw [layR.all_append, layR.all_append, all_take A d, all_drop A (d + m), Nat.add_zero]
        show List.take (d * 3) (layR.all A ++ [Value.int .i64 n]) ++ _ ++ List.drop (d * 3 + m * 3) (layR.all A ++ [Value.int .i64 n]) = _
        rw [List.take_append_of_le_length (by rw [h.len]; omega), List.drop_append_of_le_length (by rw [h.len]; omega), show d * 3 + m * 3 = (d + m) * 3 by omega]
        simp
      rw [e]
    · rw [← hR]
      refine ⟨rfl, rfl, rfl, by simp [World.setRow], fun k hk hne => setRow_other w g k _ (fun e => hne (by rw [e]))⟩
theorem step_copyR {w : World} {ops : Array Oper} {o : Oper} {a : Act} {K : Act → World → Prop} {Q : Exit → Act → World → Prop} {E : Prop} (hgd : o.guard = none) (sx x : Operand)
    (ho : o.op = .call { callee := .builtin .copy, args := #[sx, x], argTypes := #[44, 44] })
    {g : Nat} {A : List Rt} {n : Int} (h : RawT w g A n) (d s m dl dc sl sc : Nat) (p q : Addr) (hd : d + m ≤ 32) (hs : s + m ≤ 32) (hp : 0 < m → p = ⟨g, d * 3, none⟩) (hq : 0 < m → q = ⟨g, s * 3, none⟩) (hm : m = min sl dl)
    (e1 : a.eval sx = .slice (some p) dl dc) (e2 : a.eval x = .slice (some q) sl sc)
    (hk : ∀ w', RawT w' g (mv A d s m) n → w.grownBy w' (some g) → K (a.put o.dst (goInt m)) w') :
    if Region.wanted o (yielded ops a.tmps) = true then Oper.wp Try.prog o a w K Q else E := by
  have hw : Region.wanted o (yielded ops a.tmps) = true := by simp [Region.wanted, hgd]
  rw [if_pos hw]
  obtain ⟨w', hrun, h2, h3⟩ := run_copyR h o.type d s m dl dc sl sc p q hd hs hp hq hm
  unfold Oper.wp execOp
  simp only [ho, resolve, invoke, builtin, Sem.run_bind, Sem.run_pure, Result.andThen_ok, List.map_toArray, List.map_cons, List.map_nil, e1, e2, hrun]
  exact hk w' h2 h3
/-- A route put in. -/
theorem mv_in (a b rest : List Rt) (r : Rt) (h : 0 < rest.length) : (mv (a ++ b ++ rest) (a.length + 1) a.length b.length).set a.length r = (a ++ r :: b) ++ rest.drop 1 := by
  unfold mv
  have e1 : (a ++ b ++ rest).drop a.length = b ++ rest := by rw [List.append_assoc, List.drop_left]
  have e2 : (a ++ b ++ rest).drop (a.length + 1 + b.length) = rest.drop 1 := by
    rw [show a.length + 1 + b.length = (a ++ b).length + 1 by rw [List.length_append]; omega, ← List.drop_drop, List.drop_left]
  obtain ⟨z, y, hz⟩ : ∃ z y, b ++ rest = z :: y := by
    match h1 : b ++ rest with
    | [] => have := congrArg List.length h1; rw [List.length_append, List.length_nil] at this; omega
    | z :: y => exact ⟨z, y, rfl⟩
  have e3 : (a ++ b ++ rest).take (a.length + 1) = a ++ [z] := by
    rw [List.append_assoc, hz, List.take_append, List.take_of_length_le (by omega), show a.length + 1 - a.length = 1 by omega]
    rfl
  rw [e1, e2, e3, List.take_left, List.append_assoc, List.append_assoc, List.set_append_right _ _ (Nat.le_refl _), Nat.sub_self]
  simp
/-- A route taken out. -/
theorem mv_out (a b rest : List Rt) (z r : Rt) : (mv (a ++ z :: b ++ rest) a.length (a.length + 1) b.length).set (a.length + b.length) r = (a ++ b) ++ r :: rest := by
  unfold mv
  have e1 : (a ++ z :: b ++ rest).drop (a.length + 1) = b ++ rest := by
    rw [List.append_assoc, ← List.drop_drop, List.drop_left]; rfl
  have e3 : (a ++ z :: b ++ rest).take a.length = a := by rw [List.append_assoc, List.take_left]
  obtain ⟨y, t, hy, ht⟩ : ∃ y t, z :: b ++ rest = y ++ t ∧ y.length = b.length ∧ ∃ u, t = u :: rest := by
    refine ⟨(z :: b).take b.length, (z :: b).drop b.length ++ rest, by rw [← List.append_assoc, List.take_append_drop], by rw [List.length_take]; simp, ?_⟩
    obtain ⟨u, hu⟩ : ∃ u, (z :: b).drop b.length = [u] := by
      match h1 : (z :: b).drop b.length with
      | [] => have := congrArg List.length h1; rw [List.length_drop] at this; simp at this
      | [u] => exact ⟨u, rfl⟩
      | u :: v :: _ => have := congrArg List.length h1; rw [List.length_drop] at this; simp at this
    exact ⟨u, by rw [hu]; rfl⟩
  obtain ⟨hyl, u, hu⟩ := ht
  have e2 : (a ++ z :: b ++ rest).drop (a.length + b.length) = u :: rest := by
    rw [List.append_assoc, ← List.drop_drop, List.drop_left, hy, ← hyl, List.drop_left, hu]
  rw [e1, e2, e3, List.take_left, List.set_append_right _ _ (by rw [List.length_append]; omega), List.length_append, Nat.sub_self]
  rfl
end Go.Proofs.Ytlojehakifagbaa.Lpm
