/- A slice of structs of the call's own: clear of its end, and the append of its end onto its beginning. General. No statement is proved here. -/
import Derived.Test.YteggajhpjdidcaaCells
namespace Go.Proofs.Yteggajhpjdidcaa.Cells
open Go.ChangeShapes Go.WideShapes Go.ChangeAt Go.RowKit Go.Proofs.Yteggajhpjdidcaa.Kit Go.Proofs.Yteggajhpjdidcaa.App
set_option linter.unusedVariables false
set_option maxRecDepth 20000
variable {τ : Type} {L : Lay τ} {t e : TypeId} {bytes : Nat}

theorem zero_len (zc : Array Value) (n : Nat) : (Builtin.zeroCells zc n).toList.length = n * zc.size := by simp [Builtin.zeroCells]
theorem zero_one (zc : Array Value) (n : Nat) (h : ∀ v ∈ zc.toList, v.oneCell' = true) : ∀ v ∈ (Builtin.zeroCells zc n).toList, v.oneCell' = true := fun v hv => by
  obtain ⟨i, hi, rfl⟩ := List.getElem_of_mem hv
  rw [zero_len] at hi
  have hp : 0 < zc.size := by
    rcases Nat.eq_zero_or_pos zc.size with h0 | h0
    · rw [h0, Nat.mul_zero] at hi; omega
    · exact h0
  have hm : i % zc.size < zc.size := Nat.mod_lt _ hp
  simp only [Builtin.zeroCells, Array.toList_map, List.getElem_map, Array.toList_range, List.getElem_range]
  rw [getElem!_pos zc (i % zc.size) hm]
  exact h _ (by simp)
/-- 'clear' of the places m .. m + k of a slice of the call's own: its first j are as they were. -/
theorem run_clearC (T : Ty L t e bytes) (w : World) (base g n cap j m k c : Nat) (ls : List τ) (z : Value) (hz : ∀ w, (zeroValue e).run Try.prog w = .ok z w) (hzs : z.cells.size = L.k) (hz1 : ∀ v ∈ z.cells.toList, v.oneCell' = true)
    (hown : OC L e w base (.slice (some ⟨g, 0, none⟩) n cap) ls) (hj : j ≤ m) (hjl : j ≤ ls.length) (hn : m + k ≤ cap) (hk : 0 < k) :
    ∃ w', (∀ ty, (Builtin.clear_ #[t] ty #[.slice (some ⟨g, m * L.k, none⟩) k c]).run Try.prog w = .ok (.tuple #[]) w') ∧ OC L e w' base (.slice (some ⟨g, 0, none⟩) j cap) (ls.take j) ∧ w.grownBy w' (some g) := by
  obtain ⟨hl, ⟨e1, _⟩ | ⟨g', cap', cur, e1, hb, hh, hnc, hcm, hcs, ht⟩⟩ := hown
  · cases e1
  · injection e1 with e1 e2 e3
    injection e1 with e1
    injection e1 with e1
    subst e1; subst e3
    have hlen : (Builtin.zeroCells z.cells k).toList.length = k * L.k := by rw [zero_len, hzs]
    have hle : (m + k) * L.k ≤ cap * L.k := Nat.mul_le_mul_right _ hn
    rw [Nat.add_mul] at hle
    have hjm : j * L.k ≤ m * L.k := Nat.mul_le_mul_right _ hj
    have hst := run_storeCells_at Try.prog g (m * L.k) e (Builtin.zeroCells z.cells k).toList 0 cur w hh (by rw [hlen]; omega) (zero_one _ _ hz1)
    simp only [Nat.add_zero] at hst
    generalize hZ : (Builtin.zeroCells z.cells k).toList = Z at hst hlen
    generalize hR : (cur.toList.take (m * L.k) ++ Z ++ cur.toList.drop (m * L.k + Z.length)).toArray = R at hst
    have hcl : (cur.toList.take (m * L.k)).length = m * L.k := by rw [List.length_take, show cur.toList.length = cur.size from Array.length_toList]; exact Nat.min_eq_left (by omega)
    have htl : (ls.take j).length = j := by rw [List.length_take]; omega
    refine ⟨w.setRow g R, fun ty => ?_, ⟨by rw [L.all_len], .inr ⟨g, cap, R, by rw [htl], hb, ?_, by rw [htl]; omega, hcm, ?_, ?_⟩⟩, ⟨rfl, rfl, rfl, by simp [World.setRow], fun q hq hne => ?_⟩⟩
    · obtain ⟨j, rfl⟩ : ∃ j, k = j + 1 := ⟨k - 1, by omega⟩
      simp [Builtin.clear_, run_underlying T.sl, hz, hZ, hst]
    · simp [World.setRow, Array.getElem?_modify, hh]
    · rw [← hR, List.size_toArray, List.length_append, List.length_append, hcl, List.length_drop, show cur.toList.length = cur.size from Array.length_toList, hlen]
      omega
    · rw [← hR, List.append_assoc, htl]
      show (cur.toList.take (m * L.k) ++ (Z ++ _)).take (j * L.k) = _
      rw [List.take_append_of_le_length (by rw [hcl]; exact hjm), List.take_take, Nat.min_eq_left hjm]
      have h2 : L.all ls = L.all (ls.take j) ++ L.all (ls.drop j) := by rw [← L.all_append, List.take_append_drop]
      have h3 : (L.all (ls.take j)).length = j * L.k := by rw [L.all_len, htl]
      have h4 : cur.toList.take (j * L.k) = (cur.toList.take (ls.length * L.k)).take (j * L.k) := by
        rw [List.take_take, Nat.min_eq_left (Nat.mul_le_mul_right _ hjl)]
      rw [h4, ht, h2, List.take_append_of_le_length (by rw [h3]; exact Nat.le_refl _), List.take_of_length_le (by rw [h3]; exact Nat.le_refl _)]
    · simp only [World.setRow, Array.getElem?_modify]
      rw [if_neg (fun e => hne (by rw [e]))]
/-- An append with room enough, as a step of a drawn region: it stays in its block. -/
theorem step_appFit (T : Ty L t e bytes) {w : World} {ops : Array Oper} {o : Oper} {a : Act} {K : Act → World → Prop} {Q : Exit → Act → World → Prop} {E : Prop} (hgd : o.guard = none) (s x : Operand)
    (ho : o.op = .call { callee := .builtin .append, args := #[s, x], argTypes := #[t, t] })
    (base g n cap : Nat) (xs : List τ) (p : Addr) (c m : Nat) (l : List τ) (hs : a.eval s = .slice (some ⟨g, 0, none⟩) n cap) (hown : OC L e w base (.slice (some ⟨g, 0, none⟩) n cap) xs) (hx : a.eval x = .slice (some p) m c) (hn : n = xs.length) (hm : m = l.length) (hl : CI L w (some p) c l)
    (hroom : n + m ≤ cap)
    (h : ∀ w', OC L e w' base (.slice (some ⟨g, 0, none⟩) (n + m) cap) (xs ++ l) → w.grownBy w' (some g) → K (a.put o.dst (.slice (some ⟨g, 0, none⟩) (n + m) cap)) w') :
    if Region.wanted o (yielded ops a.tmps) = true then Oper.wp Try.prog o a w K Q else E := by
  have hw : Region.wanted o (yielded ops a.tmps) = true := by simp [Region.wanted, hgd]
  rw [if_pos hw]
  obtain ⟨i, z, hi, hz, hsz, hby, hzc⟩ := T.info
  subst hn; subst hm
  obtain ⟨w', hrun, h2, h3⟩ := run_append_fits (P := Try.prog) w base t o.type e i L.k T.sl hi hsz g xs.length cap (L.all xs) hown p l.length c (L.all l) (L.all_len l) (fun j u hu => by
        have hjl : j < (L.all l).length := by
          rcases Nat.lt_or_ge j (L.all l).length with h | h
          · exact h
          · rw [List.getElem?_eq_none h] at hu; cases hu
        rw [L.all_len] at hjl
        have hp := L.pos
        have h0 : 0 < l.length := by
          rcases Nat.eq_zero_or_pos l.length with h | h
          · rw [h, Nat.zero_mul] at hjl; omega
          · exact h
        obtain ⟨b, off, ea, _, hc⟩ := hl.2.2 h0
        injection ea with ea
        subst ea
        have hq : j / L.k < l.length := Nat.div_lt_of_lt_mul (by rw [Nat.mul_comm]; exact hjl)
        have hm : j % L.k < L.k := Nat.mod_lt _ hp
        have hj : j / L.k * L.k + j % L.k = j := by rw [Nat.mul_comm]; exact Nat.div_add_mod j L.k
        have hx : l[j / L.k]? = some l[j / L.k] := List.getElem?_eq_getElem hq
        have hg := L.all_get l (j / L.k) _ hx (j % L.k) hm
        rw [hj, hu] at hg
        have := hc (j / L.k) _ hx (j % L.k) u hg.symm
        rw [hj] at this
        rw [add_plain]
        exact this) (L.all_one l) hroom
  unfold Oper.wp execOp
  simp only [ho, resolve, invoke, builtin, Sem.run_bind, Sem.run_pure, Result.andThen_ok, List.map_toArray, List.map_cons, List.map_nil, hs, hx, hrun]
  refine h w' ?_ h3
  unfold OC
  rw [List.length_append, L.all_append]
  exact h2
end Go.Proofs.Yteggajhpjdidcaa.Cells
