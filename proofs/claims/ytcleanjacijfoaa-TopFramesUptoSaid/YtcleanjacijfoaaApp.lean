/- Helpers: append of integers onto a slice of the call's own. No statement is proved here. -/
import Derived.Test.YtcleanjacijfoaaKit
import Derived.Maps.AppendAt
import Derived.Deep.AppendLies
import Derived.RegionTactic
import Derived.OwnWalk
namespace Go.Proofs.Ytcleanjacijfoaa.App
open Go.ChangeShapes Go.WideShapes Go.ChangeAt Go.RowKit Go.Proofs.Ytcleanjacijfoaa.Kit
set_option linter.unusedVariables false
set_option maxRecDepth 20000

theorem info_int : (Try.prog.info? 3).map (fun i => (i.zero, i.size, i.bytes)) = some (some (.int .i64 0), 1, 8) := by kernel_rfl

/-- A slice of the call's own that holds the integers l. -/
def OwnI (w : World) (base : Nat) (v : Value) (l : List Int) : Prop := w.ownsRow base 3 1 v l.length (l.map (Value.int .i64)) ∧ ∀ x ∈ l, (Lit.int .i64 x).wf = true

theorem OwnI.nil (w : World) (base : Nat) : OwnI w base (.slice none 0 0) [] := ⟨⟨by simp, .inl ⟨rfl, rfl⟩⟩, by simp⟩
theorem OwnI.more {w w' : World} {base : Nat} {v : Value} {l : List Int} {row : Option Nat} (h : OwnI w base v l) (hg : w.grownBy w' row) (hne : v.ownBlock = none ∨ v.ownBlock ≠ row) : OwnI w' base v l := ⟨h.1.kept hg hne, h.2⟩
theorem OwnI.below {w w' : World} {base : Nat} {v : Value} {l : List Int} (h : OwnI w base v l) (hb : Below w.heap.size w w') : OwnI w' base v l :=
  h.more (row := none) ⟨hb.os, hb.tape, hb.output, hb.size, fun k hk _ => hb.block k hk⟩ (by cases v.ownBlock <;> simp)
theorem OwnI.alloc {w : World} {base : Nat} {v : Value} {l : List Int} (h : OwnI w base v l) (o : Obj) : OwnI (w.alloc o) base v l := ⟨h.1.alloc o, h.2⟩
theorem OwnI.drew {w : World} {base : Nat} {v : Value} {l : List Int} (h : OwnI w base v l) : OwnI w.drew base v l := h
theorem OwnI.form {w : World} {base : Nat} {v : Value} {l : List Int} (h : OwnI w base v l) : ∃ p cap, v = .slice p l.length cap ∧ Ints w p cap l := by
  obtain ⟨⟨hl, ⟨rfl, hn⟩ | ⟨g, cap, cur, rfl, hb, hh, hnc, hcm, hcs, ht⟩⟩, hw⟩ := h
  · have : l = [] := List.eq_nil_of_length_eq_zero hn
    subst this
    exact ⟨none, 0, rfl, Ints.nil w⟩
  · refine ⟨_, cap, rfl, hnc, hcm, fun j => ?_, fun h0 => ⟨g, 0, rfl, (Array.getElem?_eq_some_iff.1 hh).1, fun j hj => ?_⟩⟩
    · by_cases hj : j < l.length
      · rw [List.getElem?_eq_getElem hj]; exact hw _ (List.getElem_mem hj)
      · rw [List.getElem?_eq_none (by omega)]; simp [Lit.wf, IntKind.min, IntKind.max, IntKind.signed, IntKind.bits]
    · have h1 := World.ownsRow.cellAt (base := base) (e := 3) (size := 1) (n := l.length) (xs := l.map (Value.int .i64)) (w := w) (g := g) (cap := cap) ⟨hl, .inr ⟨g, cap, cur, rfl, hb, hh, hnc, hcm, hcs, ht⟩⟩ j (by omega)
      rw [Nat.zero_add, h1, List.getElem?_map, List.getElem?_eq_getElem hj]
      simp
theorem OwnI.lt {w : World} {base : Nat} {v : Value} {l : List Int} (h : OwnI w base v l) : ∀ k, v.ownBlock = some k → base ≤ k ∧ k < w.heap.size := h.1.lt

theorem Ints.one (w : World) (x : Int) (hx : (Lit.int .i64 x).wf = true) : Ints (w.alloc (.cells #[.int .i64 x] 3)) (some ⟨w.heap.size, 0, none⟩) 1 [x] :=
  ⟨by simp, by simp [maxLen], fun j => by
    rcases j with _|j
    · exact hx
    · simp [Lit.wf, IntKind.min, IntKind.max, IntKind.signed, IntKind.bits], fun _ => ⟨w.heap.size, 0, rfl, by simp, fun j hj => by
    rcases j with _|j
    · go_simp
    · simp at hj⟩⟩

theorem run_app (w : World) (ty base : Nat) (v : Value) (xs : List Int) (p : Option Addr) (cap : Nat) (l : List Int) (hown : OwnI w base v xs) (hl : Ints w p cap l)
    (hlen : xs.length + l.length ≤ 1000000000) (hbase : base ≤ w.heap.size) :
    ∃ v' w', (Builtin.append_ #[22, 22] ty #[v, .slice p l.length cap]).run Try.prog w = .ok v' w' ∧ OwnI w' base v' (xs ++ l) ∧ w.grownBy w' v.ownBlock ∧ (v'.ownBlock = v.ownBlock ∨ v'.ownBlock = some w.heap.size) := by
  obtain ⟨i, hi, hz, hs, hby⟩ := info_parts info_int
  have hwl : ∀ x ∈ l, (Lit.int .i64 x).wf = true := fun x hx => by
    obtain ⟨j, hj, rfl⟩ := List.getElem_of_mem hx
    have := hl.2.2.1 j
    rwa [List.getElem?_eq_getElem hj] at this
  cases p with
  | some a =>
    obtain ⟨v', w', hrun, h2, h3, _, h5⟩ := run_append_own_at (P := Try.prog) w base 22 ty 3 i (.int .i64 0) 1 8 Try.underlying22 hi hz hs hby rfl (by omega) v xs.length (xs.map (Value.int .i64)) hown.1
      a l.length cap (l.map (Value.int .i64)) (by simp) (fun j u hu => by
        rw [List.getElem?_map] at hu
        have hj : j < l.length := by
          rcases Nat.lt_or_ge j l.length with h | h
          · exact h
          · rw [List.getElem?_eq_none h] at hu; cases hu
        obtain ⟨b, off, e, _, hc⟩ := hl.2.2.2 (by omega)
        injection e with e
        subst e
        rw [add_plain, hc j hj, ← hu, List.getElem?_eq_getElem hj]; rfl) (fun u hu => by simp at hu; obtain ⟨x, _, rfl⟩ := hu; rfl) (by unfold maxLen; omega) (by omega) hbase
    refine ⟨v', w', hrun, ⟨?_, fun x hx => ?_⟩, h3, h5⟩
    · rw [List.length_append, List.map_append]; exact h2
    · rcases List.mem_append.1 hx with h | h
      · exact hown.2 x h
      · exact hwl x h
  | none =>
    have : l = [] := by
      by_cases h0 : 0 < l.length
      · obtain ⟨b, off, e, _⟩ := hl.2.2.2 h0; cases e
      · exact List.eq_nil_of_length_eq_zero (by omega)
    subst this
    refine ⟨v, w, ?_, by simpa using hown, ⟨rfl, rfl, rfl, Nat.le_refl _, fun _ _ _ => rfl⟩, .inl rfl⟩
    obtain ⟨⟨hll, ⟨rfl, hn⟩ | ⟨g, cap', cur, rfl, _, _, hnc, _⟩⟩, _⟩ := hown
    · simp [Builtin.append_, run_underlying Try.underlying22, sizeOf, typeInfo, hi, Builtin.lenOf, Builtin.firstCells]
    · simp [Builtin.append_, run_underlying Try.underlying22, sizeOf, typeInfo, hi, Builtin.lenOf, Builtin.firstCells, hnc, storeCells]

theorem wp_app {w : World} {ops : Array Oper} {rest : List Oper} {o : Oper} {a : Act} {Q : Exit → Act → World → Prop} (hgd : o.guard = none) (s x : Operand)
    (ho : o.op = .call { callee := .builtin .append, args := #[s, x], argTypes := #[22, 22] })
    (base : Nat) (v : Value) (xs : List Int) (p : Option Addr) (cap n : Nat) (l : List Int) (hs : a.eval s = v) (hown : OwnI w base v xs) (hx : a.eval x = .slice p n cap) (hn : n = l.length) (hl : Ints w p cap l)
    (hlen : xs.length + l.length ≤ 1000000000) (hbase : base ≤ w.heap.size)
    (h : ∀ v' w', OwnI w' base v' (xs ++ l) → w.grownBy w' v.ownBlock → (v'.ownBlock = v.ownBlock ∨ v'.ownBlock = some w.heap.size) → wpList Try.prog ops Q rest (a.put o.dst v') w') :
    wpList Try.prog ops Q (o :: rest) a w := by
  refine wpList_plain hgd fun _ hK => ?_
  obtain ⟨v', w', hrun, h2, h3, h4⟩ := run_app w o.type base v xs p cap l hown hl hlen hbase
  unfold Oper.wp execOp
  rw [hn] at hx
  simp only [ho, resolve, invoke, builtin, Sem.run_bind, Sem.run_pure, Result.andThen_ok, List.map_toArray, List.map_cons, List.map_nil, hs, hx, hrun]
  exact hK _ _ (h v' w' h2 h3 h4)

theorem below_app {W w w' : World} {base : Nat} {v : Value} {xs : List Int} (hb : Below base W w) (hown : OwnI w base v xs) (hg : w.grownBy w' v.ownBlock) (hB : base ≤ w.heap.size) : Below base W w' :=
  hb.grown hg hB (fun k hk => (hown.lt k hk).1)
end Go.Proofs.Ytcleanjacijfoaa.App
