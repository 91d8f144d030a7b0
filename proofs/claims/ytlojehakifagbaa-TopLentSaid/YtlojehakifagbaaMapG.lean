/- A map from keys of any kind to values of any kind, as a function; its operations as laws at the operation and as runs. No statement is proved here. -/
import Derived.Test.YtlojehakifagbaaBase
import Derived.Maps.OwnSet
namespace Go.Proofs.Ytlojehakifagbaa.MapG
open Go.ChangeShapes Go.WideShapes Go.ChangeAt Go.RowKit Go.ChangeMaps Go.MapKept
open Go.Proofs.Ytlojehakifagbaa.Kit Go.Proofs.Ytlojehakifagbaa.App
set_option linter.unusedVariables false
set_option maxRecDepth 20000

/-- How the keys and the values of a kind of map are written and read. -/
structure Kind (K V : Type) where
  tk : TypeId
  tv : TypeId
  tm : TypeId
  kv : K → Value
  kl : K → Lit
  okK : K → Prop
  vv : V → Value
  vd : V → DataW Unit
  okV : V → Prop
  rd : Value → Option (DataW Unit × List MemPlace)
  z : V
structure Kind.Ok {K V : Type} (κ : Kind K V) : Prop where
  keyed : Maps.Keyed Try.prog κ.tk
  und : Try.prog.underlying κ.tm = some (.map κ.tk κ.tv)
  key : ∀ k, κ.okK k → keyOf Try.prog κ.tk (κ.kv k) = some (κ.kl k)
  isKey : ∀ k, WideAt.IsKeyLit (κ.kl k)
  ne : ∀ j k, κ.okK j → κ.okK k → j ≠ k → κ.kl j ≠ κ.kl k
  zero : ∀ w, (zeroValue κ.tv).run Try.prog w = .ok (κ.vv κ.z) w
  okz : κ.okV κ.z
  read : ∀ v, κ.okV v → κ.rd (κ.vv v) = some (κ.vd v, [])
  inv : ∀ v x ps, κ.okV v → κ.rd x = some (κ.vd v, ps) → x = κ.vv v
def upd {K V : Type} [DecidableEq K] (h : K → V) (k : K) (v : V) : K → V := fun j => if j = k then v else h j
theorem upd_same {K V : Type} [DecidableEq K] (h : K → V) (k : K) (v : V) : upd h k v k = v := by unfold upd; rw [if_pos rfl]
theorem upd_other {K V : Type} [DecidableEq K] (h : K → V) {k j : K} (v : V) (hj : j ≠ k) : upd h k v j = h j := by unfold upd; rw [if_neg hj]

variable {K V : Type} {κ : Kind K V} {w w' : World} {b n : Nat} {h : K → Option V}
/-- Block b is a map of at most n entries that holds what h says. -/
def Mg (κ : Kind K V) (w : World) (b n : Nat) (h : K → Option V) : Prop :=
  ∃ D : DataW Unit, w.ownsMap Try.prog κ.tk κ.rd b n D ∧ ∀ j : K, κ.okK j → Maps.has D (κ.kl j) = (h j).isSome ∧ ∀ x, h j = some x → κ.okV x ∧ ∀ zd, D.atKey (κ.kl j) zd = κ.vd x
theorem Mg.made (κ : Kind K V) (w : World) : Mg κ (w.alloc (.map #[] 0)) w.heap.size 0 (fun _ => none) :=
  ⟨.map [], World.ownsMap_made w _ _ _, fun j _ => ⟨rfl, fun x hx => by cases hx⟩⟩
theorem Mg.lt (H : Mg κ w b n h) : b < w.heap.size := H.choose_spec.1.lt
theorem Mg.kept {row : Option Nat} (H : Mg κ w b n h) (hg : w.grownBy w' row) (hne : some b ≠ row) : Mg κ w' b n h := by
  obtain ⟨D, h1, h2⟩ := H
  exact ⟨D, h1.kept hg hne, h2⟩
theorem Mg.mono {n' : Nat} (H : Mg κ w b n h) (hn : n ≤ n') : Mg κ w b n' h := by
  obtain ⟨D, h1, h2⟩ := H
  exact ⟨D, h1.mono hn, h2⟩
/-- 'v, ok := m[k]'. -/
theorem Mg.look_ok (O : κ.Ok) (H : Mg κ w b n h) {j : K} (hj : κ.okK j) :
    (Instr.lookup κ.tm (.map (some b)) (κ.kv j) true).run Try.prog w = .ok (.tuple #[κ.vv ((h j).getD κ.z), .bool (h j).isSome]) w := by
  obtain ⟨D, h1, h2⟩ := H
  obtain ⟨v, ps, hrun, hv⟩ := h1.look_ok O.keyed O.und (O.zero w) (O.read _ O.okz) (O.key j hj)
  obtain ⟨h3, h4⟩ := h2 j hj
  rw [hrun, h3]
  cases hh : h j with
  | none =>
    rw [hh] at h3
    rw [Maps.atKey_of_not_has h3] at hv
    rw [O.inv _ _ _ O.okz hv]; rfl
  | some y =>
    rw [(h4 y hh).2] at hv
    rw [O.inv _ _ _ (h4 y hh).1 hv]; rfl
/-- 'm[k] = v'. -/
theorem Mg.store [DecidableEq K] (O : κ.Ok) (H : Mg κ w b n h) {j : K} (hj : κ.okK j) (hn : n ≤ 1000000) (x : V) (hx : κ.okV x) :
    ∃ w', (Instr.mapUpdate κ.tm (.map (some b)) (κ.kv j) (κ.vv x)).run Try.prog w = .ok () w' ∧ Mg κ w' b (n + 1) (upd h j (some x)) ∧ w.grownBy w' (some b) := by
  obtain ⟨D, h1, h2⟩ := H
  obtain ⟨w', hrun, h3, h4⟩ := h1.update O.keyed O.und (by unfold maxLen; omega) (O.key j hj) (O.read x hx)
  refine ⟨w', hrun, ⟨_, h3, fun i hi => ?_⟩, h4⟩
  by_cases hij : i = j
  · subst hij
    refine ⟨?_, fun y hy => ?_⟩
    · rw [Maps.has_put_same h1.isMap (O.isKey _), upd_same]; rfl
    · rw [upd_same] at hy
      injection hy with hy
      exact ⟨by rw [← hy]; exact hx, fun zd => by rw [Maps.atKey_put_same h1.isMap (O.isKey _), hy]⟩
  · obtain ⟨h5, h6⟩ := h2 i hi
    have hne := O.ne i j hi hj hij
    refine ⟨?_, fun y hy => ?_⟩
    · rw [Maps.has_put_other hne, upd_other h _ hij]; exact h5
    · rw [upd_other h _ hij] at hy
      exact ⟨(h6 y hy).1, fun zd => by rw [Maps.atKey_put_other hne]; exact (h6 y hy).2 zd⟩
/-- 'delete(m, k)'. -/
theorem Mg.del [DecidableEq K] (O : κ.Ok) (H : Mg κ w b n h) {j : K} (hj : κ.okK j) (ty : TypeId) :
    ∃ w', (Builtin.delete_ #[κ.tm, κ.tk] ty #[.map (some b), κ.kv j]).run Try.prog w = .ok (.tuple #[]) w' ∧ Mg κ w' b n (upd h j none) ∧ w.grownBy w' (some b) := by
  obtain ⟨D, h1, h2⟩ := H
  obtain ⟨w', hrun, h3, h4⟩ := h1.drop O.keyed O.und (O.key j hj) ty
  refine ⟨w', hrun, ⟨_, h3, fun i hi => ?_⟩, h4.grown⟩
  by_cases hij : i = j
  · subst hij
    refine ⟨?_, fun y hy => ?_⟩
    · rw [Maps.has_del_same, upd_same]; rfl
    · rw [upd_same] at hy; cases hy
  · obtain ⟨h5, h6⟩ := h2 i hi
    have hne := O.ne i j hi hj hij
    refine ⟨?_, fun y hy => ?_⟩
    · rw [Maps.has_del_other hne, upd_other h _ hij]; exact h5
    · rw [upd_other h _ hij] at hy
      exact ⟨(h6 y hy).1, fun zd => by rw [Maps.atKey_del_other hne]; exact (h6 y hy).2 zd⟩
theorem wp_putG [DecidableEq K] {ops : Array Oper} {rest : List Oper} {o : Oper} {a : Act} {Q : Exit → Act → World → Prop} (O : κ.Ok) (hgd : o.guard = none) (m k x : Operand) (ho : o.op = .mapUpdate κ.tm m k x)
    (H : Mg κ w b n h) (hn : n ≤ 1000000) (j : K) (y : V) (hj : κ.okK j) (hy : κ.okV y) (e1 : a.eval m = .map (some b)) (e2 : a.eval k = κ.kv j) (e3 : a.eval x = κ.vv y)
    (hk : ∀ w', Mg κ w' b (n + 1) (upd h j (some y)) → w.grownBy w' (some b) → wpList Try.prog ops Q rest (a.put o.dst undef) w') :
    wpList Try.prog ops Q (o :: rest) a w := by
  refine wpList_plain hgd fun _ hK => ?_
  obtain ⟨w', hrun, h2, h3⟩ := H.store O hj hn y hy
  unfold Oper.wp execOp
  simp only [ho, Sem.run_bind, Sem.run_pure, Result.andThen_ok, e1, e2, e3, hrun]
  exact hK _ _ (hk w' h2 h3)
theorem step_putG [DecidableEq K] {ops : Array Oper} {o : Oper} {a : Act} {C : Act → World → Prop} {Q : Exit → Act → World → Prop} {F : Prop} (O : κ.Ok) (hgd : o.guard = none) (m k x : Operand) (ho : o.op = .mapUpdate κ.tm m k x)
    (H : Mg κ w b n h) (hn : n ≤ 1000000) (j : K) (y : V) (hj : κ.okK j) (hy : κ.okV y) (e1 : a.eval m = .map (some b)) (e2 : a.eval k = κ.kv j) (e3 : a.eval x = κ.vv y)
    (hk : ∀ w', Mg κ w' b (n + 1) (upd h j (some y)) → w.grownBy w' (some b) → C (a.put o.dst undef) w') :
    if Region.wanted o (yielded ops a.tmps) = true then Oper.wp Try.prog o a w C Q else F := by
  have hw : Region.wanted o (yielded ops a.tmps) = true := by simp [Region.wanted, hgd]
  rw [if_pos hw]
  obtain ⟨w', hrun, h2, h3⟩ := H.store O hj hn y hy
  unfold Oper.wp execOp
  simp only [ho, Sem.run_bind, Sem.run_pure, Result.andThen_ok, e1, e2, e3, hrun]
  exact hk w' h2 h3
theorem wp_delG [DecidableEq K] {ops : Array Oper} {rest : List Oper} {o : Oper} {a : Act} {Q : Exit → Act → World → Prop} (O : κ.Ok) (hgd : o.guard = none) (m k : Operand) (ho : o.op = .call { callee := .builtin .delete, args := #[m, k], argTypes := #[κ.tm, κ.tk] })
    (H : Mg κ w b n h) (j : K) (hj : κ.okK j) (e1 : a.eval m = .map (some b)) (e2 : a.eval k = κ.kv j)
    (hk : ∀ w', Mg κ w' b n (upd h j none) → w.grownBy w' (some b) → wpList Try.prog ops Q rest (a.put o.dst (.tuple #[])) w') :
    wpList Try.prog ops Q (o :: rest) a w := by
  refine wpList_plain hgd fun _ hK => ?_
  obtain ⟨w', hrun, h2, h3⟩ := H.del O hj o.type
  unfold Oper.wp execOp
  simp only [ho, resolve, invoke, builtin, Sem.run_bind, Sem.run_pure, Result.andThen_ok, List.map_toArray, List.map_cons, List.map_nil, e1, e2, hrun]
  exact hK _ _ (hk w' h2 h3)
theorem step_delG [DecidableEq K] {ops : Array Oper} {o : Oper} {a : Act} {C : Act → World → Prop} {Q : Exit → Act → World → Prop} {F : Prop} (O : κ.Ok) (hgd : o.guard = none) (m k : Operand) (ho : o.op = .call { callee := .builtin .delete, args := #[m, k], argTypes := #[κ.tm, κ.tk] })
    (H : Mg κ w b n h) (j : K) (hj : κ.okK j) (e1 : a.eval m = .map (some b)) (e2 : a.eval k = κ.kv j)
    (hk : ∀ w', Mg κ w' b n (upd h j none) → w.grownBy w' (some b) → C (a.put o.dst (.tuple #[])) w') :
    if Region.wanted o (yielded ops a.tmps) = true then Oper.wp Try.prog o a w C Q else F := by
  have hw : Region.wanted o (yielded ops a.tmps) = true := by simp [Region.wanted, hgd]
  rw [if_pos hw]
  obtain ⟨w', hrun, h2, h3⟩ := H.del O hj o.type
  unfold Oper.wp execOp
  simp only [ho, resolve, invoke, builtin, Sem.run_bind, Sem.run_pure, Result.andThen_ok, List.map_toArray, List.map_cons, List.map_nil, e1, e2, hrun]
  exact hk w' h2 h3
end Go.Proofs.Ytlojehakifagbaa.MapG
