/- A slice of the call's own that holds rows whose numbers are old. General. No statement is proved here. -/
import Derived.Test.YtggnpecmldnmnaaRows0
import Derived.Test.YtggnpecmldnmnaaSub
namespace Go.Proofs.Ytggnpecmldnmnaa.App
open Go.ChangeShapes Go.WideShapes Go.ChangeAt Go.RowKit Go.Proofs.Ytggnpecmldnmnaa.Kit
set_option linter.unusedVariables false
set_option maxRecDepth 20000

theorem info_row : (Try.prog.info? 22).map (fun i => (i.zero, i.size, i.bytes)) = some (some (.slice none 0 0), 1, 24) := by kernel_rfl
/-- A slice of the call's own that holds rows, whose numbers are as in the older world w0. -/
def OwnF (w0 w : World) (v : Value) (ls : List (List Int)) : Prop :=
  ∃ vs : List Value, w.ownsRow w0.heap.size 22 1 v ls.length vs ∧ ∀ j : Nat, j < ls.length → ∃ q c, vs[j]? = some (.slice q (ls[j]?.getD []).length c) ∧ Ints w0 q c (ls[j]?.getD [])
theorem OwnF.nil (w0 w : World) : OwnF w0 w (.slice none 0 0) [] := ⟨[], ⟨by simp, .inl ⟨rfl, rfl⟩⟩, fun j hj => absurd hj (Nat.not_lt_zero _)⟩
theorem OwnF.more {w0 w w' : World} {v : Value} {ls : List (List Int)} {row : Option Nat} (h : OwnF w0 w v ls) (hg : w.grownBy w' row) (hne : v.ownBlock = none ∨ v.ownBlock ≠ row) : OwnF w0 w' v ls := by
  obtain ⟨vs, ho, he⟩ := h
  exact ⟨vs, ho.kept hg hne, he⟩
theorem OwnF.below {w0 w w' : World} {v : Value} {ls : List (List Int)} (h : OwnF w0 w v ls) (hb : Below w.heap.size w w') : OwnF w0 w' v ls :=
  h.more (row := none) ⟨hb.os, hb.tape, hb.output, hb.size, fun k hk _ => hb.block k hk⟩ (by cases v.ownBlock <;> simp)
theorem OwnF.lt {w0 w : World} {v : Value} {ls : List (List Int)} (h : OwnF w0 w v ls) : ∀ k, v.ownBlock = some k → w0.heap.size ≤ k ∧ k < w.heap.size := by
  obtain ⟨vs, ho, _⟩ := h
  exact ho.lt
theorem OwnF.form {w0 w : World} {v : Value} {ls : List (List Int)} (h : OwnF w0 w v ls) (hB : Below w0.heap.size w0 w) : ∃ p cap, v = .slice p ls.length cap ∧ RowsI w p cap ls := by
  obtain ⟨vs, ⟨hl, ⟨rfl, hn⟩ | ⟨g, cap, cur, rfl, hb, hh, hnc, hcm, hcs, ht⟩⟩, he⟩ := h
  · have : ls = [] := List.eq_nil_of_length_eq_zero hn
    subst this
    exact ⟨none, 0, rfl, RowsI.nil w⟩
  · refine ⟨_, cap, rfl, hnc, hcm, fun h0 => ⟨g, 0, rfl, (Array.getElem?_eq_some_iff.1 hh).1, fun j hj => ?_⟩⟩
    obtain ⟨q, c, e1, e2⟩ := he j hj
    refine ⟨q, c, ?_, e2.below hB⟩
    have h1 := World.ownsRow.cellAt (base := w0.heap.size) (e := 22) (size := 1) (n := ls.length) (xs := vs) (w := w) (g := g) (cap := cap) ⟨hl, .inr ⟨g, cap, cur, rfl, hb, hh, hnc, hcm, hcs, ht⟩⟩ j (by omega)
    rw [Nat.zero_add, h1, e1]

theorem run_appF (w0 w : World) (ty : TypeId) (v : Value) (ls : List (List Int)) (a : Addr) (q : Option Addr) (n c : Nat) (l : List Int) (hown : OwnF w0 w v ls) (hcell : w.cell? a = some (.slice q n c)) (hn : n = l.length) (hl : Ints w0 q c l)
    (hlen : ls.length ≤ 1000000000) (hbase : w0.heap.size ≤ w.heap.size) :
    ∃ v' w', (Builtin.append_ #[23, 23] ty #[v, .slice (some a) 1 1]).run Try.prog w = .ok v' w' ∧ OwnF w0 w' v' (ls ++ [l]) ∧ w.grownBy w' v.ownBlock ∧ (v'.ownBlock = v.ownBlock ∨ v'.ownBlock = some w.heap.size) := by
  subst hn
  obtain ⟨i, hi, hz, hs, hby⟩ := info_parts info_row
  obtain ⟨vs, ho, he⟩ := hown
  obtain ⟨v', w', hrun, h2, h3, _, h5⟩ := run_append_own_at (P := Try.prog) w w0.heap.size 23 ty 22 i (.slice none 0 0) 1 24 Try.underlying23 hi hz hs hby rfl (by omega) v ls.length vs ho
      a 1 1 [.slice q l.length c] (by simp) (fun j u hu => by
        rcases j with _|j
        · have : u = .slice q l.length c := by simpa using hu.symm
          rw [this, ← hcell]; rfl
        · simp at hu) (fun u hu => by simp at hu; subst hu; rfl) (by unfold maxLen; omega) (by omega) hbase
  have hvl : vs.length = ls.length := by have := ho.1; omega
  refine ⟨v', w', hrun, ⟨vs ++ [.slice q l.length c], by rw [List.length_append]; exact h2, fun j hj => ?_⟩, h3, h5⟩
  rw [List.length_append] at hj
  simp only [List.length_cons, List.length_nil] at hj
  by_cases h1 : j < ls.length
  · obtain ⟨q', c', e1, e2⟩ := he j h1
    rw [List.getElem?_append_left h1]
    exact ⟨q', c', by rw [List.getElem?_append_left (by omega), e1], e2⟩
  · obtain rfl : j = ls.length := by omega
    have e : (ls ++ [l])[ls.length]?.getD [] = l := by simp
    rw [e]
    exact ⟨q, c, by rw [List.getElem?_append_right (by omega), hvl]; simp, hl⟩

theorem wp_appF {w0 w : World} {ops : Array Oper} {rest : List Oper} {o : Oper} {a : Act} {Q : Exit → Act → World → Prop} (hgd : o.guard = none) (s x : Operand)
    (ho : o.op = .call { callee := .builtin .append, args := #[s, x], argTypes := #[23, 23] })
    (v : Value) (ls : List (List Int)) (ad : Addr) (q : Option Addr) (n c : Nat) (l : List Int) (hs : a.eval s = v) (hown : OwnF w0 w v ls) (hx : a.eval x = .slice (some ad) 1 1) (hcell : w.cell? ad = some (.slice q n c)) (hn : n = l.length) (hl : Ints w0 q c l)
    (hlen : ls.length ≤ 1000000000) (hbase : w0.heap.size ≤ w.heap.size)
    (h : ∀ v' w', OwnF w0 w' v' (ls ++ [l]) → w.grownBy w' v.ownBlock → (v'.ownBlock = v.ownBlock ∨ v'.ownBlock = some w.heap.size) → wpList Try.prog ops Q rest (a.put o.dst v') w') :
    wpList Try.prog ops Q (o :: rest) a w := by
  refine wpList_plain hgd fun _ hK => ?_
  obtain ⟨v', w', hrun, h2, h3, h4⟩ := run_appF w0 w o.type v ls ad q n c l hown hcell hn hl hlen hbase
  unfold Oper.wp execOp
  simp only [ho, resolve, invoke, builtin, Sem.run_bind, Sem.run_pure, Result.andThen_ok, List.map_toArray, List.map_cons, List.map_nil, hs, hx, hrun]
  exact hK _ _ (h v' w' h2 h3 h4)
theorem below_appF {w0 w w' : World} {v : Value} {ls : List (List Int)} (hb : Below w0.heap.size w0 w) (hown : OwnF w0 w v ls) (hg : w.grownBy w' v.ownBlock) : Below w0.heap.size w0 w' :=
  hb.grown hg hb.size (fun k hk => (hown.lt k hk).1)

end Go.Proofs.Ytggnpecmldnmnaa.App
