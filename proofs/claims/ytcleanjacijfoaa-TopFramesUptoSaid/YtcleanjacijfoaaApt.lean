/- Helpers: slices of the call's own in different blocks; a list of numbers as it comes in, its length under the bound. No statement is proved here. -/
import Derived.Test.YtcleanjacijfoaaSub
namespace Go.Proofs.Ytcleanjacijfoaa.App
open Go.ChangeShapes Go.WideShapes Go.ChangeAt Go.RowKit Go.Proofs.Ytcleanjacijfoaa.Kit
set_option linter.unusedVariables false
set_option maxRecDepth 20000

/-- Two slices of the call's own that lie in different blocks. -/
def Apt (u v : Value) : Prop := ∀ k, u.ownBlock = some k → v.ownBlock = some k → False
theorem Apt.symm {u v : Value} (h : Apt u v) : Apt v u := fun k h1 h2 => h k h2 h1
theorem Apt.nil (u : Value) : Apt u (.slice none 0 0) := fun k _ h2 => by simp [Value.ownBlock] at h2
theorem Apt.ne {u v : Value} (h : Apt u v) : u.ownBlock = none ∨ u.ownBlock ≠ v.ownBlock := by
  cases hu : u.ownBlock with
  | none => exact .inl rfl
  | some k => exact .inr (fun e => h k hu e.symm)
theorem Apt.grow {u v v' : Value} {n m : Nat} (h : Apt u v) (hu : ∀ k, u.ownBlock = some k → k < m) (hm : m ≤ n) (hv : v'.ownBlock = v.ownBlock ∨ v'.ownBlock = some n) : Apt u v' := fun k h1 h2 => by
  rcases hv with e | e
  · exact h k h1 (by rw [← e]; exact h2)
  · rw [e] at h2
    injection h2 with h2
    have := hu k h1
    omega
theorem Apt.split {u v : Value} (n : Nat) (hu : ∀ k, u.ownBlock = some k → k < n) (hv : ∀ k, v.ownBlock = some k → n ≤ k) : Apt u v := fun k h1 h2 => by
  have := hu k h1
  have := hv k h2
  omega

theorem open_intse {H : Type} {enc : TypeId × Value → H} {P : Program} {w : World} {r : Reach} {b0 : Nat} {t e : TypeId} {v : Value} {d : DataW H} {ps : List MemPlace}
    (ht : P.underlying t = some (.slice e)) (he : P.underlying e = some (.int .i64)) (hc : P.cellsOf e = 1)
    (hval : Value.okWide P w r b0 t v) (hd : DataW.Trod enc P w 0 (fun _ => true) true t v d ps) (hlt : ∀ x ∈ ps, x.block < w.heap.size) :
    ∃ p cap l, v = .slice p l.length cap ∧ Ints w p cap l ∧ (l.length = 0 ∨ ∃ es sp, d = .slice es sp ∧ es.length = l.length) := by
  obtain ⟨a0, len, cap, rfl⟩ := okWide_slice ht hval
  obtain ⟨fuel, hf⟩ := hd
  rcases open_ints ht he hc hf with ⟨hcs, hx⟩ | ⟨a, len', cap', zs, hcs, _, hl, hm, hz, hx, hcell, hwz⟩
  · simp [Value.cells] at hcs
    obtain ⟨rfl, rfl, rfl⟩ := hcs
    exact ⟨none, 0, [], rfl, Ints.nil w, .inl rfl⟩
  · simp [Value.cells] at hcs
    obtain ⟨rfl, rfl, rfl⟩ := hcs
    simp only [if_true] at hz
    simp only [Prod.mk.injEq] at hx
    obtain ⟨rfl, rfl⟩ := hx
    have hlen : (zs.take len).length = len := by rw [List.length_take]; omega
    refine ⟨some a, cap, zs.take len, by rw [hlen], ⟨by omega, hm, fun j => ?_, fun hn => ?_⟩, .inr ⟨_, _, rfl, by simp [lits]⟩⟩
    · by_cases hj : j < (zs.take len).length
      · rw [List.getElem?_eq_getElem hj]
        exact hwz _ (List.mem_of_mem_take (List.getElem_mem hj))
      · rw [List.getElem?_eq_none (by omega)]
        simp [Lit.wf, IntKind.min, IntKind.max, IntKind.signed, IntKind.bits]
    · obtain ⟨b, off, spot⟩ := a
      have hspot : spot = none := by simpa [Addr.add] using World.cell?_spot (hcell 0 (by omega))
      subst hspot
      refine ⟨b, off, rfl, ?_, fun j hj => ?_⟩
      · have := hlt (.cell b off) (MemPlace.mem_row.2 ⟨0, by omega, by simp⟩)
        exact this
      · have := hcell j (by omega)
        rw [add_plain] at this
        rw [this, List.getElem?_take, if_pos (by omega)]
        simp

theorem bulk_len {H : Type} : ∀ l : List (DataW H), l.length ≤ Rows.uptoBulkAll l
  | [] => Nat.le_refl _
  | d :: l => by
    have h1 := bulk_len l
    have h2 : 1 ≤ Rows.uptoBulk d := by
      rcases d with l | _ | d | ⟨es, sp⟩ | ps | ⟨t, d⟩ | es | h
      · cases l <;> simp [Rows.uptoBulk]
      all_goals simp [Rows.uptoBulk]
    simp only [List.length_cons, Rows.uptoBulkAll]
    omega
theorem small_at {H : Type} {d : DataW H} {ds : List (DataW H)} {l : List Int} (hm : d ∈ ds) (hk : Rows.uptoSmall H (ds ++ []) = true) (he : l.length = 0 ∨ ∃ es sp, d = .slice es sp ∧ es.length = l.length) : l.length ≤ 1048576 := by
  have h : Rows.uptoBulkAll (ds ++ []) ≤ 1048576 := of_decide_eq_true hk
  rw [List.append_nil] at h
  rcases he with h0 | ⟨es, sp, rfl, h0⟩
  · omega
  · have h2 : ∀ ds : List (DataW H), (.slice es sp : DataW H) ∈ ds → es.length ≤ Rows.uptoBulkAll ds := by
      intro ds
      induction ds with
      | nil => intro h; cases h
      | cons d ds ih =>
        intro h
        rw [Rows.uptoBulkAll]
        rcases List.mem_cons.1 h with rfl | h
        · have := bulk_len es
          simp only [Rows.uptoBulk]
          omega
        · have := ih h
          omega
    have := h2 ds hm
    omega
end Go.Proofs.Ytcleanjacijfoaa.App
