/- Maps by numbers that hold numbers or truths, as functions; their operations as laws at the operation and as runs. No statement is proved here. -/
import Derived.Test.YthiebkkfgegebaaBase
import Derived.Maps.OwnSet
namespace Go.Proofs.Ythiebkkfgegebaa.MapF
open Go.ChangeShapes Go.WideShapes Go.ChangeAt Go.RowKit Go.ChangeMaps Go.MapKept
open Go.Proofs.Ythiebkkfgegebaa.Kit Go.Proofs.Ythiebkkfgegebaa.App
set_option linter.unusedVariables false
set_option maxRecDepth 20000

/-- What lies in a map: by its key. -/
def upd {α : Type} (h : Nat → Option α) (k : Nat) (v : α) : Nat → Option α := fun j => if j = k then some v else h j
theorem upd_same {α : Type} (h : Nat → Option α) (k : Nat) (v : α) : upd h k v k = some v := by unfold upd; rw [if_pos rfl]
theorem upd_other {α : Type} (h : Nat → Option α) {k j : Nat} (v : α) (hj : j ≠ k) : upd h k v j = h j := by unfold upd; rw [if_neg hj]

theorem lawI : Maps.Keyed Try.prog 3 := Maps.int_keyed Try.underlying3
theorem wfN {k : Nat} (hk : k ≤ 1000000) : (Lit.int .i64 (k : Int)).wf = true := by simp [Lit.wf, IntKind.min, IntKind.max, IntKind.signed, IntKind.bits]; omega
theorem keyN {k : Nat} (hk : k ≤ 1000000) : keyOf Try.prog 3 (.int .i64 (k : Int)) = some (.int .i64 (k : Int)) := Maps.keyOf_int_mk Try.underlying3 (wfN hk)
theorem isKey (k : Int) : WideAt.IsKeyLit (.int .i64 k) := by first | trivial | simp [WideAt.IsKeyLit] | exact ⟨_, rfl⟩
theorem ne_key {j k : Nat} (h : j ≠ k) : (Lit.int .i64 (j : Int)) ≠ .int .i64 (k : Int) := fun e => by injection e with _ e; omega

/-- How an element lies. -/
structure Elem (α : Type) where
  e : TypeId
  m : TypeId
  enc : α → Value
  lit : α → Lit
  ok : α → Prop
  zero : α
  read : ∀ x, ok x → plainElem (H := Unit) Try.prog e (enc x) = some (.lit (lit x), [])
  back : ∀ v d ps, plainElem (H := Unit) Try.prog e v = some (d, ps) → ∃ x, ok x ∧ v = enc x ∧ d = .lit (lit x)
  inj : ∀ x y, lit x = lit y → x = y
  ut : Try.prog.underlying m = some (.map 3 e)
  z : ∀ w, (zeroValue e).run Try.prog w = .ok (enc zero) w
  zok : ok zero

variable {α : Type}
/-- Block b is a map of at most n entries that holds what h says, at the keys from nought to a million. -/
def Mp (E : Elem α) (w : World) (b n : Nat) (h : Nat → Option α) : Prop :=
  ∃ D : DataW Unit, w.ownsMap Try.prog 3 (plainElem Try.prog E.e) b n D ∧ ∀ j : Nat, j ≤ 1000000 → Maps.has D (.int .i64 (j : Int)) = (h j).isSome ∧ ∀ x, h j = some x → E.ok x ∧ ∀ zd, D.atKey (.int .i64 (j : Int)) zd = .lit (E.lit x)

theorem Mp.made (E : Elem α) (w : World) : Mp E (w.alloc (.map #[] 0)) w.heap.size 0 (fun _ => none) :=
  ⟨.map [], World.ownsMap_made w _ _ _, fun j _ => ⟨rfl, fun x hx => by cases hx⟩⟩
theorem Mp.lt {E : Elem α} {w : World} {b n : Nat} {h : Nat → Option α} (H : Mp E w b n h) : b < w.heap.size := H.choose_spec.1.lt
theorem Mp.kept {E : Elem α} {w w' : World} {b n : Nat} {h : Nat → Option α} {row : Option Nat} (H : Mp E w b n h) (hg : w.grownBy w' row) (hne : some b ≠ row) : Mp E w' b n h := by
  obtain ⟨D, h1, h2⟩ := H
  exact ⟨D, h1.kept hg hne, h2⟩
theorem Mp.below {E : Elem α} {w w' : World} {b n : Nat} {h : Nat → Option α} (H : Mp E w b n h) (hb : Below w.heap.size w w') : Mp E w' b n h :=
  H.kept (row := none) ⟨hb.os, hb.tape, hb.output, hb.size, fun k hk _ => hb.block k hk⟩ (by simp)
theorem Mp.alloc {E : Elem α} {w : World} {b n : Nat} {h : Nat → Option α} (H : Mp E w b n h) (o : Obj) : Mp E (w.alloc o) b n h := H.kept (World.grownBy_alloc w o none) (by simp)
theorem Mp.drewN {E : Elem α} {w : World} {b n : Nat} {h : Nat → Option α} (H : Mp E w b n h) (k : Nat) : Mp E (w.drewN k) b n h := H
theorem Mp.drew {E : Elem α} {w : World} {b n : Nat} {h : Nat → Option α} (H : Mp E w b n h) : Mp E w.drew b n h := H
theorem Mp.mono {E : Elem α} {w : World} {b n n' : Nat} {h : Nat → Option α} (H : Mp E w b n h) (hn : n ≤ n') : Mp E w b n' h := by
  obtain ⟨D, h1, h2⟩ := H
  exact ⟨D, h1.mono hn, h2⟩

theorem atKey_none {D : DataW Unit} {k : Lit} (h : Maps.has D k = false) (z : DataW Unit) : D.atKey k z = z := Maps.atKey_of_not_has h z
theorem Mp.ok {E : Elem α} {w : World} {b n : Nat} {h : Nat → Option α} (H : Mp E w b n h) {j : Nat} (hj : j ≤ 1000000) {x : α} (hx : h j = some x) : E.ok x := by
  obtain ⟨D, _, h2⟩ := H
  exact ((h2 j hj).2 x hx).1
/-- 'v, ok := m[k]'. -/
theorem Mp.look_ok {E : Elem α} {w : World} {b n : Nat} {h : Nat → Option α} (H : Mp E w b n h) {j : Nat} (hj : j ≤ 1000000) :
    (Instr.lookup E.m (.map (some b)) (.int .i64 (j : Int)) true).run Try.prog w = .ok (.tuple #[E.enc ((h j).getD E.zero), .bool (h j).isSome]) w := by
  obtain ⟨D, h1, h2⟩ := H
  obtain ⟨v, ps, hrun, hv⟩ := h1.look_ok lawI E.ut (E.z w) (E.read _ E.zok) (keyN hj)
  obtain ⟨h3, h4⟩ := h2 j hj
  obtain ⟨x, _, rfl, hx⟩ := E.back _ _ _ hv
  rw [hrun, h3]
  cases hh : h j with
  | none =>
    rw [hh] at h3
    rw [atKey_none h3] at hx
    injection hx with hx
    rw [E.inj _ _ hx]; rfl
  | some y =>
    rw [(h4 y hh).2] at hx
    injection hx with hx
    rw [E.inj _ _ hx]; rfl
/-- 'm[k]'. -/
theorem Mp.look {E : Elem α} {w : World} {b n : Nat} {h : Nat → Option α} (H : Mp E w b n h) {j : Nat} (hj : j ≤ 1000000) :
    (Instr.lookup E.m (.map (some b)) (.int .i64 (j : Int)) false).run Try.prog w = .ok (E.enc ((h j).getD E.zero)) w := by
  obtain ⟨D, h1, h2⟩ := H
  obtain ⟨v, ps, hrun, hv⟩ := h1.lookup lawI E.ut (E.z w) (E.read _ E.zok) (keyN hj)
  obtain ⟨h3, h4⟩ := h2 j hj
  obtain ⟨x, _, rfl, hx⟩ := E.back _ _ _ hv
  rw [hrun]
  cases hh : h j with
  | none =>
    rw [hh] at h3
    rw [atKey_none h3] at hx
    injection hx with hx
    rw [E.inj _ _ hx]; rfl
  | some y =>
    rw [(h4 y hh).2] at hx
    injection hx with hx
    rw [E.inj _ _ hx]; rfl
/-- 'm[k] = v'. -/
theorem Mp.store {E : Elem α} {w : World} {b n : Nat} {h : Nat → Option α} (H : Mp E w b n h) {j : Nat} (hj : j ≤ 1000000) (hn : n ≤ 1000000) (x : α) (hx : E.ok x) :
    ∃ w', (Instr.mapUpdate E.m (.map (some b)) (.int .i64 (j : Int)) (E.enc x)).run Try.prog w = .ok () w' ∧ Mp E w' b (n + 1) (upd h j x) ∧ w.grownBy w' (some b) := by
  obtain ⟨D, h1, h2⟩ := H
  obtain ⟨w', hrun, h3, h4⟩ := h1.update lawI E.ut (by unfold maxLen; omega) (keyN hj) (E.read x hx)
  refine ⟨w', hrun, ⟨_, h3, fun i hi => ?_⟩, h4⟩
  by_cases hij : i = j
  · subst hij
    refine ⟨?_, fun y hy => ?_⟩
    · rw [Maps.has_put_same h1.isMap (isKey _), upd_same]; rfl
    · rw [upd_same] at hy
      injection hy with hy
      exact ⟨by rw [← hy]; exact hx, fun zd => by rw [Maps.atKey_put_same h1.isMap (isKey _), hy]⟩
  · obtain ⟨h5, h6⟩ := h2 i hi
    refine ⟨?_, fun y hy => ?_⟩
    · rw [Maps.has_put_other (ne_key hij), upd_other h x hij]; exact h5
    · rw [upd_other h x hij] at hy
      exact ⟨(h6 y hy).1, fun zd => by rw [Maps.atKey_put_other (ne_key hij)]; exact (h6 y hy).2 zd⟩
theorem step_put {E : Elem α} {w : World} {ops : Array Oper} {o : Oper} {a : Act} {K : Act → World → Prop} {Q : Exit → Act → World → Prop} {F : Prop} (hgd : o.guard = none) (m k x : Operand) (ho : o.op = .mapUpdate E.m m k x)
    {b n : Nat} {h : Nat → Option α} (H : Mp E w b n h) (hn : n ≤ 1000000) (j : Nat) (hj : j ≤ 1000000) (y : α) (hy : E.ok y) (e1 : a.eval m = .map (some b)) (e2 : a.eval k = .int .i64 (j : Int)) (e3 : a.eval x = E.enc y)
    (hk : ∀ w', Mp E w' b (n + 1) (upd h j y) → w.grownBy w' (some b) → K (a.put o.dst undef) w') :
    if Region.wanted o (yielded ops a.tmps) = true then Oper.wp Try.prog o a w K Q else F := by
  have hw : Region.wanted o (yielded ops a.tmps) = true := by simp [Region.wanted, hgd]
  rw [if_pos hw]
  obtain ⟨w', hrun, h2, h3⟩ := H.store hj hn y hy
  unfold Oper.wp execOp
  simp only [ho, Sem.run_bind, Sem.run_pure, Result.andThen_ok, e1, e2, e3, hrun]
  exact hk w' h2 h3

theorem zeroI (w : World) : (zeroValue 3).run Try.prog w = .ok (.int .i64 0) w := by kernel_rfl
theorem zeroB (w : World) : (zeroValue 4).run Try.prog w = .ok (.bool false) w := by kernel_rfl
def EI : Elem Int := ⟨3, 44, Value.int .i64, Lit.int .i64, fun x => (Lit.int .i64 x).wf = true, 0, fun x hx => plainElem_int Try.underlying3 hx, fun v d ps h => by
  obtain ⟨a, rfl, h2, h3⟩ := plainElem_int_inv Try.underlying3 h
  exact ⟨a, h3, rfl, (Prod.mk.inj h2).1⟩, fun x y h => by injection h, Try.underlying44, zeroI, by decide⟩
def EB : Elem Bool := ⟨4, 48, Value.bool, Lit.bool, fun _ => True, false, fun x _ => plainElem_bool Try.underlying4 x, fun v d ps h => by
  unfold plainElem at h
  rw [Try.underlying4] at h
  cases v <;> simp at h
  exact ⟨_, trivial, rfl, h.1.symm⟩, fun x y h => by injection h, Try.underlying48, zeroB, trivial⟩
end Go.Proofs.Ythiebkkfgegebaa.MapF
