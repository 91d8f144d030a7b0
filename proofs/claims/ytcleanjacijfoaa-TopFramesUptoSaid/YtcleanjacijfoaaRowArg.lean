/- Helpers: a slice of rows of numbers as it comes in, its length under the bound, and rows of the call's own whose numbers are old. No statement is proved here. -/
import Derived.Test.YtcleanjacijfoaaStuff4
import Derived.Deep.Matrix
namespace Go.Proofs.Ytcleanjacijfoaa.Stuff
open Go.ChangeShapes Go.WideShapes Go.ChangeAt Go.RowKit Go.Deep
open Go.Proofs.Ytcleanjacijfoaa.Kit Go.Proofs.Ytcleanjacijfoaa.App
set_option linter.unusedVariables false

theorem open_rows {H : Type} {enc : TypeId × Value → H} {P : Program} {w : World} {r : Reach} {b0 : Nat} {t e q : TypeId} {v : Value} {d : DataW H} {ps : List MemPlace}
    (ht : P.underlying t = some (.slice e)) (he : P.underlying e = some (.slice q)) (hq : P.underlying q = some (.int .i64)) (ce : P.cellsOf e = 1) (cq : P.cellsOf q = 1)
    (hval : Value.okWide P w r b0 t v) (hd : DataW.Trod enc P w 0 (fun _ => true) true t v d ps) (hlt : ∀ x ∈ ps, x.block < w.heap.size) :
    ∃ p cap ls, v = .slice p ls.length cap ∧ RowsI w p cap ls ∧ (ls.length = 0 ∨ ∃ es sp, d = .slice es sp ∧ es.length = ls.length) := by
  obtain ⟨a0, len, cap, rfl⟩ := okWide_slice ht hval
  obtain ⟨fuel, hf⟩ := hd
  rcases open_int_rows ht he hq ce cq hf with ⟨hcs, hx⟩ | ⟨a, len', cap', A, L, C, Z, hcs, _, hl, hm, hx, hrow⟩
  · simp [Value.cells] at hcs
    obtain ⟨rfl, rfl, rfl⟩ := hcs
    exact ⟨none, 0, [], rfl, RowsI.nil w, .inl rfl⟩
  · simp [Value.cells] at hcs
    obtain ⟨rfl, rfl, rfl⟩ := hcs
    simp only [Prod.mk.injEq] at hx
    obtain ⟨rfl, rfl⟩ := hx
    have hlen : ((List.range len).map fun r => (Z r).take (L r)).length = len := by simp
    have hget : ∀ j : Nat, j < len → ((List.range len).map fun r => (Z r).take (L r))[j]?.getD [] = (Z j).take (L j) := fun j hj => by
      rw [List.getElem?_map, List.getElem?_range hj]; rfl
    refine ⟨some a, cap, (List.range len).map fun r => (Z r).take (L r), by rw [hlen], ⟨by omega, hm, fun hn => ?_⟩, .inr ⟨_, _, rfl, by simp⟩⟩
    rw [hlen] at hn
    obtain ⟨b, off, spot⟩ := a
    have hspot : spot = none := by simpa [Addr.add] using World.cell?_spot (hrow 0 (by omega)).1
    subst hspot
    refine ⟨b, off, rfl, ?_, fun j hj => ?_⟩
    · exact hlt (.cell b off) (List.mem_append_left _ (MemPlace.mem_row.2 ⟨0, by omega, by simp⟩))
    · rw [hlen] at hj
      obtain ⟨r1, r2, r3, r4, r5, r6, r7⟩ := hrow j (by omega)
      rw [hget j hj]
      have hll : ((Z j).take (L j)).length = L j := by rw [List.length_take]; omega
      rw [add_plain] at r1
      refine ⟨A j, C j, by rw [hll]; exact r1, by omega, r3, fun i => ?_, fun h0 => ?_⟩
      · by_cases hi : i < ((Z j).take (L j)).length
        · rw [List.getElem?_eq_getElem hi]
          exact r5 _ (List.mem_of_mem_take (List.getElem_mem hi))
        · rw [List.getElem?_eq_none (by omega)]
          exact wf_zero
      · rw [hll] at h0
        cases hA : A j with
        | none => have := r6 hA; omega
        | some a' =>
          obtain ⟨b', off', spot'⟩ := a'
          obtain ⟨_, r8⟩ := r7 _ hA
          have hspot : spot' = none := by simpa [Addr.add] using World.cell?_spot (r8 0 (by omega))
          subst hspot
          refine ⟨b', off', rfl, ?_, fun i hi => ?_⟩
          · refine hlt (.cell b' off') (List.mem_append_right _ (List.mem_flatMap.2 ⟨j, List.mem_range.2 (by omega), ?_⟩))
            unfold intRowPlaces
            rw [hA]
            exact MemPlace.mem_row.2 ⟨0, by omega, by simp⟩
          · rw [hll] at hi
            have := r8 i (by omega)
            rw [add_plain] at this
            rw [this, List.getElem?_take, if_pos hi, List.getD_eq_getElem?_getD]

theorem bulk_len {H : Type} : ∀ l : List (DataW H), l.length ≤ Rows.uptoBulkAll l
  | [] => Nat.le_refl _
  | d :: l => by
    have h1 := bulk_len l
    have h2 : 1 ≤ Rows.uptoBulk d := by
      rcases d with l | _ | d | ⟨es, sp⟩ | ps | ⟨t, d⟩ | es | h
      · cases l <;> simp [Rows.uptoBulk]
      all_goals simp [Rows.uptoBulk]
    simp only [List.length_cons, Rows.uptoBulkAll]
    omega
theorem small_of {H : Type} {d : DataW H} {ls : List (List Int)} (hk : Rows.uptoSmall H ([d] ++ []) = true) (he : ls.length = 0 ∨ ∃ es sp, d = .slice es sp ∧ es.length = ls.length) : ls.length ≤ 1048576 := by
  have h : Rows.uptoBulkAll ([d] ++ []) ≤ 1048576 := of_decide_eq_true hk
  rcases he with h0 | ⟨es, sp, rfl, h0⟩
  · omega
  · simp only [List.cons_append, List.nil_append, Rows.uptoBulkAll, Rows.uptoBulk] at h
    have := bulk_len es
    omega

/-- A slice of the call's own that holds rows, whose numbers are as in the older world w0. -/
def OwnF (w0 w : World) (v : Value) (ls : List (List Int)) : Prop :=
  ∃ vs : List Value, w.ownsRow w0.heap.size 22 1 v ls.length vs ∧ ∀ j : Nat, j < ls.length → ∃ q c, vs[j]? = some (.slice q (ls[j]?.getD []).length c) ∧ Ints w0 q c (ls[j]?.getD [])
theorem OwnF.nil (w0 w : World) : OwnF w0 w (.slice none 0 0) [] := ⟨[], ⟨by simp, .inl ⟨rfl, rfl⟩⟩, fun j hj => absurd hj (Nat.not_lt_zero _)⟩
theorem OwnF.more {w0 w w' : World} {v : Value} {ls : List (List Int)} {row : Option Nat} (h : OwnF w0 w v ls) (hg : w.grownBy w' row) (hne : v.ownBlock = none ∨ v.ownBlock ≠ row) : OwnF w0 w' v ls := by
  obtain ⟨vs, ho, he⟩ := h
  exact ⟨vs, ho.kept hg hne, he⟩
theorem OwnF.below {w0 w w' : World} {v : Value} {ls : List (List Int)} (h : OwnF w0 w v ls) (hb : Below w.heap.size w w') : OwnF w0 w' v ls :=
  h.more (row := none) ⟨hb.os, hb.tape, hb.output, hb.size, fun k hk _ => hb.block k hk⟩ (by cases v.ownBlock <;> simp)
theorem OwnF.lt {w0 w : World} {v : Value} {ls : List (List Int)} (h : OwnF w0 w v ls) : ∀ k, v.ownBlock = some k → w0.heap.size ≤ k ∧ k < w.heap.size := by
  obtain ⟨vs, ho, _⟩ := h
  exact ho.lt
theorem OwnF.form {w0 w : World} {v : Value} {ls : List (List Int)} (h : OwnF w0 w v ls) (hB : Below w0.heap.size w0 w) : ∃ p cap, v = .slice p ls.length cap ∧ RowsI w p cap ls := by
  obtain ⟨vs, ⟨hl, ⟨rfl, hn⟩ | ⟨g, cap, cur, rfl, hb, hh, hnc, hcm, hcs, ht⟩⟩, he⟩ := h
  · have : ls = [] := List.eq_nil_of_length_eq_zero hn
    subst this
    exact ⟨none, 0, rfl, RowsI.nil w⟩
  · refine ⟨_, cap, rfl, hnc, hcm, fun h0 => ⟨g, 0, rfl, (Array.getElem?_eq_some_iff.1 hh).1, fun j hj => ?_⟩⟩
    obtain ⟨q, c, e1, e2⟩ := he j hj
    refine ⟨q, c, ?_, e2.below hB⟩
    have h1 := World.ownsRow.cellAt (base := w0.heap.size) (e := 22) (size := 1) (n := ls.length) (xs := vs) (w := w) (g := g) (cap := cap) ⟨hl, .inr ⟨g, cap, cur, rfl, hb, hh, hnc, hcm, hcs, ht⟩⟩ j (by omega)
    rw [Nat.zero_add, h1, e1]

theorem run_appF (w0 w : World) (ty : TypeId) (v : Value) (ls : List (List Int)) (a : Addr) (q : Option Addr) (n c : Nat) (l : List Int) (hown : OwnF w0 w v ls) (hcell : w.cell? a = some (.slice q n c)) (hn : n = l.length) (hl : Ints w0 q c l)
    (hlen : ls.length ≤ 1000000000) (hbase : w0.heap.size ≤ w.heap.size) :
    ∃ v' w', (Builtin.append_ #[40, 40] ty #[v, .slice (some a) 1 1]).run Try.prog w = .ok v' w' ∧ OwnF w0 w' v' (ls ++ [l]) ∧ w.grownBy w' v.ownBlock ∧ (v'.ownBlock = v.ownBlock ∨ v'.ownBlock = some w.heap.size) := by
  subst hn
  obtain ⟨i, hi, hz, hs, hby⟩ := info_parts info_row
  obtain ⟨vs, ho, he⟩ := hown
  obtain ⟨v', w', hrun, h2, h3, _, h5⟩ := run_append_own_at (P := Try.prog) w w0.heap.size 40 ty 22 i (.slice none 0 0) 1 24 Try.underlying40 hi hz hs hby rfl (by omega) v ls.length vs ho
      a 1 1 [.slice q l.length c] (by simp) (fun j u hu => by
        rcases j with _|j
        · have : u = .slice q l.length c := by simpa using hu.symm
          rw [this, ← hcell]; rfl
        · simp at hu) (fun u hu => by simp at hu; subst hu; rfl) (by unfold maxLen; omega) (by omega) hbase
  have hvl : vs.length = ls.length := by have := ho.1; omega
  refine ⟨v', w', hrun, ⟨vs ++ [.slice q l.length c], by rw [List.length_append]; exact h2, fun j hj => ?_⟩, h3, h5⟩
  rw [List.length_append] at hj
  simp only [List.length_cons, List.length_nil] at hj
  by_cases h1 : j < ls.length
  · obtain ⟨q', c', e1, e2⟩ := he j h1
    rw [List.getElem?_append_left h1]
    exact ⟨q', c', by rw [List.getElem?_append_left (by omega), e1], e2⟩
  · obtain rfl : j = ls.length := by omega
    have e : (ls ++ [l])[ls.length]?.getD [] = l := by simp
    rw [e]
    exact ⟨q, c, by rw [List.getElem?_append_right (by omega), hvl]; simp, hl⟩

theorem wp_appF {w0 w : World} {ops : Array Oper} {rest : List Oper} {o : Oper} {a : Act} {Q : Exit → Act → World → Prop} (hgd : o.guard = none) (s x : Operand)
    (ho : o.op = .call { callee := .builtin .append, args := #[s, x], argTypes := #[40, 40] })
    (v : Value) (ls : List (List Int)) (ad : Addr) (q : Option Addr) (n c : Nat) (l : List Int) (hs : a.eval s = v) (hown : OwnF w0 w v ls) (hx : a.eval x = .slice (some ad) 1 1) (hcell : w.cell? ad = some (.slice q n c)) (hn : n = l.length) (hl : Ints w0 q c l)
    (hlen : ls.length ≤ 1000000000) (hbase : w0.heap.size ≤ w.heap.size)
    (h : ∀ v' w', OwnF w0 w' v' (ls ++ [l]) → w.grownBy w' v.ownBlock → (v'.ownBlock = v.ownBlock ∨ v'.ownBlock = some w.heap.size) → wpList Try.prog ops Q rest (a.put o.dst v') w') :
    wpList Try.prog ops Q (o :: rest) a w := by
  refine wpList_plain hgd fun _ hK => ?_
  obtain ⟨v', w', hrun, h2, h3, h4⟩ := run_appF w0 w o.type v ls ad q n c l hown hcell hn hl hlen hbase
  unfold Oper.wp execOp
  simp only [ho, resolve, invoke, builtin, Sem.run_bind, Sem.run_pure, Result.andThen_ok, List.map_toArray, List.map_cons, List.map_nil, hs, hx, hrun]
  exact hK _ _ (h v' w' h2 h3 h4)
theorem below_appF {w0 w w' : World} {v : Value} {ls : List (List Int)} (hb : Below w0.heap.size w0 w) (hown : OwnF w0 w v ls) (hg : w.grownBy w' v.ownBlock) : Below w0.heap.size w0 w' :=
  hb.grown hg hb.size (fun k hk => (hown.lt k hk).1)

/-- Two slices of the call's own that lie in different blocks. -/
def Apt (u v : Value) : Prop := ∀ k, u.ownBlock = some k → v.ownBlock = some k → False
theorem Apt.symm {u v : Value} (h : Apt u v) : Apt v u := fun k h1 h2 => h k h2 h1
theorem Apt.nil (u : Value) : Apt u (.slice none 0 0) := fun k _ h2 => by simp [Value.ownBlock] at h2
theorem Apt.ne {u v : Value} (h : Apt u v) : u.ownBlock = none ∨ u.ownBlock ≠ v.ownBlock := by
  cases hu : u.ownBlock with
  | none => exact .inl rfl
  | some k => exact .inr (fun e => h k hu e.symm)
theorem Apt.grow {u v v' : Value} {n m : Nat} (h : Apt u v) (hu : ∀ k, u.ownBlock = some k → k < m) (hm : m ≤ n) (hv : v'.ownBlock = v.ownBlock ∨ v'.ownBlock = some n) : Apt u v' := fun k h1 h2 => by
  rcases hv with e | e
  · exact h k h1 (by rw [← e]; exact h2)
  · rw [e] at h2
    injection h2 with h2
    have := hu k h1
    omega
end Go.Proofs.Ytcleanjacijfoaa.Stuff
