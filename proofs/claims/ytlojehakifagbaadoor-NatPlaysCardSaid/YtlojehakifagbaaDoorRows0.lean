/- Helpers: a slice of rows of numbers as it comes in, and its length under the bound. No statement is proved here. -/
import Derived.Test.YtlojehakifagbaaDoorBase
import Derived.Deep.Matrix
namespace Go.Proofs.YtlojehakifagbaaDoor.App
open Go.ChangeShapes Go.WideShapes Go.ChangeAt Go.RowKit Go.Deep
open Go.Proofs.YtlojehakifagbaaDoor.Kit
set_option linter.unusedVariables false

/-- A slice of rows reads as lists of numbers. -/
def RowsI (w : World) (p : Option Addr) (cap : Nat) (ls : List (List Int)) : Prop :=
  ls.length ≤ cap ∧ cap ≤ maxLen ∧ (0 < ls.length → ∃ b off, p = some ⟨b, off, none⟩ ∧ b < w.heap.size ∧
    ∀ j : Nat, j < ls.length → ∃ q c, w.cell? ⟨b, off + j, none⟩ = some (.slice q (ls[j]?.getD []).length c) ∧ Ints w q c (ls[j]?.getD []))
theorem RowsI.below {w w' : World} {p : Option Addr} {cap : Nat} {ls : List (List Int)} (h : RowsI w p cap ls) (hb : Below w.heap.size w w') : RowsI w' p cap ls :=
  ⟨h.1, h.2.1, fun hn => by
    obtain ⟨b, off, e, hbs, hc⟩ := h.2.2 hn
    refine ⟨b, off, e, Nat.lt_of_lt_of_le hbs hb.size, fun j hj => ?_⟩
    obtain ⟨q, c, hq, hi⟩ := hc j hj
    exact ⟨q, c, (hb.cell (p := ⟨b, off + j, none⟩) hbs).trans hq, hi.below hb⟩⟩
theorem RowsI.len_le {w : World} {p : Option Addr} {cap : Nat} {ls : List (List Int)} (h : RowsI w p cap ls) : ls.length ≤ 9223372036854775807 := by
  have h1 := h.1; have h2 := h.2.1; unfold maxLen at h2; omega
theorem RowsI.nil (w : World) : RowsI w none 0 [] := ⟨by simp, by simp, by simp⟩

theorem wf_zero_r : (Lit.int .i64 0).wf = true := by decide
theorem open_rows {H : Type} {enc : TypeId × Value → H} {P : Program} {w : World} {r : Reach} {b0 : Nat} {t e q : TypeId} {v : Value} {d : DataW H} {ps : List MemPlace}
    (ht : P.underlying t = some (.slice e)) (he : P.underlying e = some (.slice q)) (hq : P.underlying q = some (.int .i64)) (ce : P.cellsOf e = 1) (cq : P.cellsOf q = 1)
    (hval : Value.okWide P w r b0 t v) (hd : DataW.Trod enc P w 0 (fun _ => true) true t v d ps) (hlt : ∀ x ∈ ps, x.block < w.heap.size) :
    ∃ p cap ls, v = .slice p ls.length cap ∧ RowsI w p cap ls ∧ (ls.length = 0 ∨ ∃ es sp, d = .slice es sp ∧ es.length = ls.length) := by
  obtain ⟨a0, len, cap, rfl⟩ := okWide_slice ht hval
  obtain ⟨fuel, hf⟩ := hd
  rcases open_int_rows ht he hq ce cq hf with ⟨hcs, hx⟩ | ⟨a, len', cap', A, L, C, Z, hcs, _, hl, hm, hx, hrow⟩
  · simp [Value.cells] at hcs
    obtain ⟨rfl, rfl, rfl⟩ := hcs
    exact ⟨none, 0, [], rfl, RowsI.nil w, .inl rfl⟩
  · simp [Value.cells] at hcs
    obtain ⟨rfl, rfl, rfl⟩ := hcs
    simp only [Prod.mk.injEq] at hx
    obtain ⟨rfl, rfl⟩ := hx
    have hlen : ((List.range len).map fun r => (Z r).take (L r)).length = len := by simp
    have hget : ∀ j : Nat, j < len → ((List.range len).map fun r => (Z r).take (L r))[j]?.getD [] = (Z j).take (L j) := fun j hj => by
      rw [List.getElem?_map, List.getElem?_range hj]; rfl
    refine ⟨some a, cap, (List.range len).map fun r => (Z r).take (L r), by rw [hlen], ⟨by omega, hm, fun hn => ?_⟩, .inr ⟨_, _, rfl, by simp⟩⟩
    rw [hlen] at hn
    obtain ⟨b, off, spot⟩ := a
    have hspot : spot = none := by simpa [Addr.add] using World.cell?_spot (hrow 0 (by omega)).1
    subst hspot
    refine ⟨b, off, rfl, ?_, fun j hj => ?_⟩
    · exact hlt (.cell b off) (List.mem_append_left _ (MemPlace.mem_row.2 ⟨0, by omega, by simp⟩))
    · rw [hlen] at hj
      obtain ⟨r1, r2, r3, r4, r5, r6, r7⟩ := hrow j (by omega)
      rw [hget j hj]
      have hll : ((Z j).take (L j)).length = L j := by rw [List.length_take]; omega
      rw [add_plain] at r1
      refine ⟨A j, C j, by rw [hll]; exact r1, by omega, r3, fun i => ?_, fun h0 => ?_⟩
      · by_cases hi : i < ((Z j).take (L j)).length
        · rw [List.getElem?_eq_getElem hi]
          exact r5 _ (List.mem_of_mem_take (List.getElem_mem hi))
        · rw [List.getElem?_eq_none (by omega)]
          exact wf_zero_r
      · rw [hll] at h0
        cases hA : A j with
        | none => have := r6 hA; omega
        | some a' =>
          obtain ⟨b', off', spot'⟩ := a'
          obtain ⟨_, r8⟩ := r7 _ hA
          have hspot : spot' = none := by simpa [Addr.add] using World.cell?_spot (r8 0 (by omega))
          subst hspot
          refine ⟨b', off', rfl, ?_, fun i hi => ?_⟩
          · refine hlt (.cell b' off') (List.mem_append_right _ (List.mem_flatMap.2 ⟨j, List.mem_range.2 (by omega), ?_⟩))
            unfold intRowPlaces
            rw [hA]
            exact MemPlace.mem_row.2 ⟨0, by omega, by simp⟩
          · rw [hll] at hi
            have := r8 i (by omega)
            rw [add_plain] at this
            rw [this, List.getElem?_take, if_pos hi, List.getD_eq_getElem?_getD]

theorem bulk_len_r {H : Type} : ∀ l : List (DataW H), l.length ≤ Rows.uptoBulkAll l
  | [] => Nat.le_refl _
  | d :: l => by
    have h1 := bulk_len_r l
    have h2 : 1 ≤ Rows.uptoBulk d := by
      rcases d with l | _ | d | ⟨es, sp⟩ | ps | ⟨t, d⟩ | es | h
      · cases l <;> simp [Rows.uptoBulk]
      all_goals simp [Rows.uptoBulk]
    simp only [List.length_cons, Rows.uptoBulkAll]
    omega
theorem small_of {H : Type} {d : DataW H} {ls : List (List Int)} (hk : Rows.uptoSmall H ([d] ++ []) = true) (he : ls.length = 0 ∨ ∃ es sp, d = .slice es sp ∧ es.length = ls.length) : ls.length ≤ 1048576 := by
  have h : Rows.uptoBulkAll ([d] ++ []) ≤ 1048576 := of_decide_eq_true hk
  rcases he with h0 | ⟨es, sp, rfl, h0⟩
  · omega
  · simp only [List.cons_append, List.nil_append, Rows.uptoBulkAll, Rows.uptoBulk] at h
    have := bulk_len_r es
    omega

end Go.Proofs.YtlojehakifagbaaDoor.App
