/- A map by whole numbers that holds numbers, as a function; its operations as laws at the operation and as runs. No statement is proved here. -/
import Derived.Test.YtckfobkkjiiheaaBase
import Derived.Test.YtckfobkkjiiheaaWheelMath
import Derived.Maps.OwnSet
namespace Go.Proofs.Ytckfobkkjiiheaa.MapZ
open Go.ChangeShapes Go.WideShapes Go.ChangeAt Go.RowKit Go.ChangeMaps Go.MapKept
open Go.Proofs.Ytckfobkkjiiheaa.Kit Go.Proofs.Ytckfobkkjiiheaa.App Go.Proofs.Ytckfobkkjiiheaa.WheelMath
set_option linter.unusedVariables false
set_option maxRecDepth 20000

theorem lawZ : Maps.Keyed Try.prog 3 := Maps.int_keyed Try.underlying3
theorem keyZ {k : Int} (hk : (Lit.int .i64 k).wf = true) : keyOf Try.prog 3 (.int .i64 k) = some (.int .i64 k) := Maps.keyOf_int_mk Try.underlying3 hk
theorem isKeyZ (k : Int) : WideAt.IsKeyLit (.int .i64 k) := by first | trivial | simp [WideAt.IsKeyLit] | exact ⟨_, rfl⟩
theorem neZ {j k : Int} (h : j ≠ k) : (Lit.int .i64 j) ≠ .int .i64 k := fun e => by injection e with _ e; exact h e
theorem zeroZ (w : World) : (zeroValue 3).run Try.prog w = .ok (.int .i64 0) w := by kernel_rfl
theorem readZ {x : Int} (hx : (Lit.int .i64 x).wf = true) : plainElem (H := Unit) Try.prog 3 (.int .i64 x) = some (.lit (.int .i64 x), []) := plainElem_int Try.underlying3 hx
theorem wf0 : (Lit.int .i64 0).wf = true := by decide
theorem wf_of {x : Int} (h : -9223372036854775808 ≤ x ∧ x ≤ 9223372036854775807) : (Lit.int .i64 x).wf = true := by simp [Lit.wf, IntKind.min, IntKind.max, IntKind.signed, IntKind.bits]; omega

/-- Block b is a map of at most n entries that holds what h says. -/
def Mz (w : World) (b n : Nat) (h : Int → Option Int) : Prop :=
  ∃ D : DataW Unit, w.ownsMap Try.prog 3 (plainElem Try.prog 3) b n D ∧ ∀ j : Int, (Lit.int .i64 j).wf = true → Maps.has D (.int .i64 j) = (h j).isSome ∧ ∀ x, h j = some x → (Lit.int .i64 x).wf = true ∧ ∀ zd, D.atKey (.int .i64 j) zd = .lit (.int .i64 x)
theorem Mz.made (w : World) : Mz (w.alloc (.map #[] 0)) w.heap.size 0 (fun _ => none) :=
  ⟨.map [], World.ownsMap_made w _ _ _, fun j _ => ⟨rfl, fun x hx => by cases hx⟩⟩
variable {w w' : World} {b n : Nat} {h : Int → Option Int}
theorem Mz.lt (H : Mz w b n h) : b < w.heap.size := H.choose_spec.1.lt
theorem Mz.kept {row : Option Nat} (H : Mz w b n h) (hg : w.grownBy w' row) (hne : some b ≠ row) : Mz w' b n h := by
  obtain ⟨D, h1, h2⟩ := H
  exact ⟨D, h1.kept hg hne, h2⟩
theorem Mz.mono {n' : Nat} (H : Mz w b n h) (hn : n ≤ n') : Mz w b n' h := by
  obtain ⟨D, h1, h2⟩ := H
  exact ⟨D, h1.mono hn, h2⟩
/-- 'v, ok := m[k]'. -/
theorem Mz.look_ok (H : Mz w b n h) {j : Int} (hj : (Lit.int .i64 j).wf = true) :
    (Instr.lookup 42 (.map (some b)) (.int .i64 j) true).run Try.prog w = .ok (.tuple #[.int .i64 ((h j).getD 0), .bool (h j).isSome]) w := by
  obtain ⟨D, h1, h2⟩ := H
  obtain ⟨v, ps, hrun, hv⟩ := h1.look_ok lawZ Try.underlying42 (zeroZ w) (readZ wf0) (keyZ hj)
  obtain ⟨h3, h4⟩ := h2 j hj
  obtain ⟨x, rfl, hx, hw⟩ := plainElem_int_inv Try.underlying3 hv
  have hx := (Prod.mk.inj hx).1
  rw [hrun, h3]
  cases hh : h j with
  | none =>
    rw [hh] at h3
    rw [Maps.atKey_of_not_has h3] at hx
    injection hx with hx
    injection hx with _ hx
    rw [← hx]; rfl
  | some y =>
    rw [(h4 y hh).2] at hx
    injection hx with hx
    injection hx with _ hx
    rw [← hx]; rfl
/-- 'm[k] = v'. -/
theorem Mz.store (H : Mz w b n h) {j : Int} (hj : (Lit.int .i64 j).wf = true) (hn : n ≤ 1000000) (x : Int) (hx : (Lit.int .i64 x).wf = true) :
    ∃ w', (Instr.mapUpdate 42 (.map (some b)) (.int .i64 j) (.int .i64 x)).run Try.prog w = .ok () w' ∧ Mz w' b (n + 1) (updZ h j (some x)) ∧ w.grownBy w' (some b) := by
  obtain ⟨D, h1, h2⟩ := H
  obtain ⟨w', hrun, h3, h4⟩ := h1.update lawZ Try.underlying42 (by unfold maxLen; omega) (keyZ hj) (readZ hx)
  refine ⟨w', hrun, ⟨_, h3, fun i hi => ?_⟩, h4⟩
  by_cases hij : i = j
  · subst hij
    refine ⟨?_, fun y hy => ?_⟩
    · rw [Maps.has_put_same h1.isMap (isKeyZ _), updZ_same]; rfl
    · rw [updZ_same] at hy
      injection hy with hy
      exact ⟨by rw [← hy]; exact hx, fun zd => by rw [Maps.atKey_put_same h1.isMap (isKeyZ _), hy]⟩
  · obtain ⟨h5, h6⟩ := h2 i hi
    refine ⟨?_, fun y hy => ?_⟩
    · rw [Maps.has_put_other (neZ hij), updZ_other h _ hij]; exact h5
    · rw [updZ_other h _ hij] at hy
      exact ⟨(h6 y hy).1, fun zd => by rw [Maps.atKey_put_other (neZ hij)]; exact (h6 y hy).2 zd⟩
/-- 'delete(m, k)'. -/
theorem Mz.del (H : Mz w b n h) {j : Int} (hj : (Lit.int .i64 j).wf = true) (ty : TypeId) :
    ∃ w', (Builtin.delete_ #[42, 3] ty #[.map (some b), .int .i64 j]).run Try.prog w = .ok (.tuple #[]) w' ∧ Mz w' b n (updZ h j none) ∧ w.grownBy w' (some b) := by
  obtain ⟨D, h1, h2⟩ := H
  obtain ⟨w', hrun, h3, h4⟩ := h1.drop lawZ Try.underlying42 (keyZ hj) ty
  refine ⟨w', hrun, ⟨_, h3, fun i hi => ?_⟩, h4.grown⟩
  by_cases hij : i = j
  · subst hij
    refine ⟨?_, fun y hy => ?_⟩
    · rw [Maps.has_del_same, updZ_same]; rfl
    · rw [updZ_same] at hy; cases hy
  · obtain ⟨h5, h6⟩ := h2 i hi
    refine ⟨?_, fun y hy => ?_⟩
    · rw [Maps.has_del_other (neZ hij), updZ_other h _ hij]; exact h5
    · rw [updZ_other h _ hij] at hy
      exact ⟨(h6 y hy).1, fun zd => by rw [Maps.atKey_del_other (neZ hij)]; exact (h6 y hy).2 zd⟩
theorem wp_put {ops : Array Oper} {rest : List Oper} {o : Oper} {a : Act} {Q : Exit → Act → World → Prop} (hgd : o.guard = none) (m k x : Operand) (ho : o.op = .mapUpdate 42 m k x)
    (H : Mz w b n h) (hn : n ≤ 1000000) (j y : Int) (hj : (Lit.int .i64 j).wf = true) (hy : (Lit.int .i64 y).wf = true) (e1 : a.eval m = .map (some b)) (e2 : a.eval k = .int .i64 j) (e3 : a.eval x = .int .i64 y)
    (hk : ∀ w', Mz w' b (n + 1) (updZ h j (some y)) → w.grownBy w' (some b) → wpList Try.prog ops Q rest (a.put o.dst undef) w') :
    wpList Try.prog ops Q (o :: rest) a w := by
  refine wpList_plain hgd fun _ hK => ?_
  obtain ⟨w', hrun, h2, h3⟩ := H.store hj hn y hy
  unfold Oper.wp execOp
  simp only [ho, Sem.run_bind, Sem.run_pure, Result.andThen_ok, e1, e2, e3, hrun]
  exact hK _ _ (hk w' h2 h3)
theorem wp_del {ops : Array Oper} {rest : List Oper} {o : Oper} {a : Act} {Q : Exit → Act → World → Prop} (hgd : o.guard = none) (m k : Operand) (ho : o.op = .call { callee := .builtin .delete, args := #[m, k], argTypes := #[42, 3] })
    (H : Mz w b n h) (j : Int) (hj : (Lit.int .i64 j).wf = true) (e1 : a.eval m = .map (some b)) (e2 : a.eval k = .int .i64 j)
    (hk : ∀ w', Mz w' b n (updZ h j none) → w.grownBy w' (some b) → wpList Try.prog ops Q rest (a.put o.dst (.tuple #[])) w') :
    wpList Try.prog ops Q (o :: rest) a w := by
  refine wpList_plain hgd fun _ hK => ?_
  obtain ⟨w', hrun, h2, h3⟩ := H.del hj o.type
  unfold Oper.wp execOp
  simp only [ho, resolve, invoke, builtin, Sem.run_bind, Sem.run_pure, Result.andThen_ok, List.map_toArray, List.map_cons, List.map_nil, e1, e2, hrun]
  exact hK _ _ (hk w' h2 h3)
theorem step_del {ops : Array Oper} {o : Oper} {a : Act} {K : Act → World → Prop} {Q : Exit → Act → World → Prop} {F : Prop} (hgd : o.guard = none) (m k : Operand) (ho : o.op = .call { callee := .builtin .delete, args := #[m, k], argTypes := #[42, 3] })
    (H : Mz w b n h) (j : Int) (hj : (Lit.int .i64 j).wf = true) (e1 : a.eval m = .map (some b)) (e2 : a.eval k = .int .i64 j)
    (hk : ∀ w', Mz w' b n (updZ h j none) → w.grownBy w' (some b) → K (a.put o.dst (.tuple #[])) w') :
    if Region.wanted o (yielded ops a.tmps) = true then Oper.wp Try.prog o a w K Q else F := by
  have hw : Region.wanted o (yielded ops a.tmps) = true := by simp [Region.wanted, hgd]
  rw [if_pos hw]
  obtain ⟨w', hrun, h2, h3⟩ := H.del hj o.type
  unfold Oper.wp execOp
  simp only [ho, resolve, invoke, builtin, Sem.run_bind, Sem.run_pure, Result.andThen_ok, List.map_toArray, List.map_cons, List.map_nil, e1, e2, hrun]
  exact hk w' h2 h3
end Go.Proofs.Ytckfobkkjiiheaa.MapZ
