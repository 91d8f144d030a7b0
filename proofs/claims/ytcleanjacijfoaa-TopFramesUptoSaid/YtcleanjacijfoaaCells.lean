/- Slices of structs of plain fields (numbers, truths, texts): as they come in, of the call's own, appended. General: one Lay for each struct. No statement is proved here. -/
import Derived.Test.YtcleanjacijfoaaBase
import Derived.ChangeArms
namespace Go.Proofs.Ytcleanjacijfoaa.Cells
open Go.ChangeShapes Go.WideShapes Go.ChangeAt Go.RowKit Go.Proofs.Ytcleanjacijfoaa.Kit Go.Proofs.Ytcleanjacijfoaa.App
set_option linter.unusedVariables false
set_option maxRecDepth 20000

/-- How a struct lies in memory: its cells. -/
structure Lay (τ : Type) where
  enc : τ → List Value
  k : Nat
  pos : 0 < k
  len : ∀ x, (enc x).length = k
  one : ∀ x, ∀ v ∈ enc x, v.oneCell' = true

variable {τ : Type}

/-- The cells of some structs, one behind the other. -/
def Lay.all (L : Lay τ) (ls : List τ) : List Value := ls.flatMap L.enc
theorem Lay.all_append (L : Lay τ) (a b : List τ) : L.all (a ++ b) = L.all a ++ L.all b := by simp [Lay.all]
theorem Lay.all_len (L : Lay τ) (ls : List τ) : (L.all ls).length = ls.length * L.k := by
  induction ls with
  | nil => simp [Lay.all]
  | cons x ls ih =>
    have : L.all (x :: ls) = L.enc x ++ L.all ls := rfl
    rw [this, List.length_append, L.len, ih, List.length_cons, Nat.succ_mul]; omega
theorem Lay.all_get (L : Lay τ) : ∀ (ls : List τ) (j : Nat) (x : τ), ls[j]? = some x → ∀ i : Nat, i < L.k → (L.all ls)[j * L.k + i]? = (L.enc x)[i]?
  | [], j, x, h, _, _ => by simp at h
  | y :: ls, 0, x, h, i, hi => by
    have e : y = x := by simpa using h
    subst e
    have : L.all (y :: ls) = L.enc y ++ L.all ls := rfl
    rw [this, Nat.zero_mul, Nat.zero_add, List.getElem?_append_left (by rw [L.len]; exact hi)]
  | y :: ls, j + 1, x, h, i, hi => by
    have : L.all (y :: ls) = L.enc y ++ L.all ls := rfl
    rw [this, List.getElem?_append_right (by rw [L.len, Nat.succ_mul]; omega), L.len]
    have e : (j + 1) * L.k + i - L.k = j * L.k + i := by rw [Nat.succ_mul]; omega
    rw [e]
    exact Lay.all_get L ls j x (by simpa using h) i hi
theorem Lay.all_one (L : Lay τ) (ls : List τ) : ∀ v ∈ L.all ls, v.oneCell' = true := fun v hv => by
  obtain ⟨x, _, hx⟩ := List.mem_flatMap.1 hv
  exact L.one x v hx

/-- A slice of structs reads as a list. -/
def CI (L : Lay τ) (w : World) (p : Option Addr) (cap : Nat) (ls : List τ) : Prop :=
  ls.length ≤ cap ∧ cap ≤ maxLen ∧ (0 < ls.length → ∃ b off, p = some ⟨b, off, none⟩ ∧ b < w.heap.size ∧
    ∀ (j : Nat) (x : τ), ls[j]? = some x → ∀ (i : Nat) (v : Value), (L.enc x)[i]? = some v → w.cell? ⟨b, off + (j * L.k + i), none⟩ = some v)
theorem CI.keep {L : Lay τ} {w w' : World} {p : Option Addr} {cap : Nat} {ls : List τ} (h : CI L w p cap ls) (hs : w.heap.size ≤ w'.heap.size) (hk : ∀ a, p = some a → a.block < w.heap.size → w'.heap[a.block]? = w.heap[a.block]?) : CI L w' p cap ls :=
  ⟨h.1, h.2.1, fun hn => by
    obtain ⟨b, off, e, hb, hc⟩ := h.2.2 hn
    exact ⟨b, off, e, by omega, fun j x hj i v hv => (World.cell?_of_block (w := w) (a := ⟨b, off + (j * L.k + i), none⟩) (hk ⟨b, off, none⟩ e hb)).trans (hc j x hj i v hv)⟩⟩
theorem CI.below {L : Lay τ} {w w' : World} {p : Option Addr} {cap : Nat} {ls : List τ} (h : CI L w p cap ls) (hb : Below w.heap.size w w') : CI L w' p cap ls :=
  h.keep hb.size (fun a _ ha => hb.block _ ha)
theorem CI.len_le {L : Lay τ} {w : World} {p : Option Addr} {cap : Nat} {ls : List τ} (h : CI L w p cap ls) : ls.length ≤ 9223372036854775807 := by
  have h1 := h.1; have h2 := h.2.1; unfold maxLen at h2; omega
theorem CI.nil (L : Lay τ) (w : World) : CI L w none 0 [] := ⟨by simp, by simp, by simp⟩
theorem CI.empty (L : Lay τ) (w : World) (p : Option Addr) (c : Nat) (hm : c ≤ maxLen) : CI L w p c [] := ⟨Nat.zero_le _, hm, fun h => absurd h (by simp)⟩
/-- A part of a slice. -/
theorem CI.sub {L : Lay τ} {w : World} {b off cap : Nat} {ls : List τ} (h : CI L w (some ⟨b, off, none⟩) cap ls) (k m c : Nat) (hk : k + m ≤ ls.length) (hc : m ≤ c) (hm : c ≤ maxLen) : CI L w (some ⟨b, off + k * L.k, none⟩) c ((ls.drop k).take m) := by
  have hlen : ((ls.drop k).take m).length = m := by rw [List.length_take, List.length_drop]; omega
  refine ⟨by rw [hlen]; exact hc, hm, fun hn => ?_⟩
  obtain ⟨b', off', e, hb, hcell⟩ := h.2.2 (by omega)
  injection e with e
  injection e with e1 e2
  subst e1; subst e2
  refine ⟨b, off + k * L.k, rfl, hb, fun j x hj i v hv => ?_⟩
  have hjm : j < m := by
    rcases Nat.lt_or_ge j ((ls.drop k).take m).length with h1 | h1
    · omega
    · rw [List.getElem?_eq_none h1] at hj; cases hj
  rw [List.getElem?_take, if_pos hjm, List.getElem?_drop] at hj
  have := hcell (k + j) x hj i v hv
  rw [← this]
  congr 2
  rw [Nat.add_mul]; omega

/-- A slice of the call's own that holds some structs. -/
def OC (L : Lay τ) (e : TypeId) (w : World) (base : Nat) (v : Value) (ls : List τ) : Prop := w.ownsRow base e L.k v ls.length (L.all ls)
theorem OC.nil (L : Lay τ) (e : TypeId) (w : World) (base : Nat) : OC L e w base (.slice none 0 0) [] := ⟨by simp [Lay.all], .inl ⟨rfl, rfl⟩⟩
theorem OC.more {L : Lay τ} {e : TypeId} {w w' : World} {base : Nat} {v : Value} {ls : List τ} {row : Option Nat} (h : OC L e w base v ls) (hg : w.grownBy w' row) (hne : v.ownBlock = none ∨ v.ownBlock ≠ row) : OC L e w' base v ls := World.ownsRow.kept h hg hne
theorem OC.below {L : Lay τ} {e : TypeId} {w w' : World} {base : Nat} {v : Value} {ls : List τ} (h : OC L e w base v ls) (hb : Below w.heap.size w w') : OC L e w' base v ls :=
  h.more (row := none) ⟨hb.os, hb.tape, hb.output, hb.size, fun k hk _ => hb.block k hk⟩ (by cases v.ownBlock <;> simp)
theorem OC.alloc {L : Lay τ} {e : TypeId} {w : World} {base : Nat} {v : Value} {ls : List τ} (h : OC L e w base v ls) (o : Obj) : OC L e (w.alloc o) base v ls := World.ownsRow.alloc h o
theorem OC.drew {L : Lay τ} {e : TypeId} {w : World} {base : Nat} {v : Value} {ls : List τ} (h : OC L e w base v ls) : OC L e w.drew base v ls := h
theorem OC.lt {L : Lay τ} {e : TypeId} {w : World} {base : Nat} {v : Value} {ls : List τ} (h : OC L e w base v ls) : ∀ k, v.ownBlock = some k → base ≤ k ∧ k < w.heap.size := World.ownsRow.lt h
theorem OC.mono {L : Lay τ} {e : TypeId} {w : World} {base base' : Nat} {v : Value} {ls : List τ} (h : OC L e w base v ls) (hb : base' ≤ base) : OC L e w base' v ls := by
  obtain ⟨h1, h2⟩ := h
  refine ⟨h1, ?_⟩
  rcases h2 with h2 | ⟨g, cap, cur, rfl, hg, rest⟩
  · exact .inl h2
  · exact .inr ⟨g, cap, cur, rfl, by omega, rest⟩
theorem OC.form {L : Lay τ} {e : TypeId} {w : World} {base : Nat} {v : Value} {ls : List τ} (h : OC L e w base v ls) : ∃ p cap, v = .slice p ls.length cap ∧ CI L w p cap ls := by
  have h0 := h
  obtain ⟨hl, ⟨rfl, hn⟩ | ⟨g, cap, cur, rfl, hb, hh, hnc, hcm, hcs, ht⟩⟩ := h
  · have : ls = [] := List.eq_nil_of_length_eq_zero hn
    subst this
    exact ⟨none, 0, rfl, CI.nil L w⟩
  · refine ⟨_, cap, rfl, hnc, hcm, fun hn => ⟨g, 0, rfl, (Array.getElem?_eq_some_iff.1 hh).1, fun j x hj i v hv => ?_⟩⟩
    have hik : i < L.k := by
      rcases Nat.lt_or_ge i (L.enc x).length with h1 | h1
      · rw [L.len] at h1; exact h1
      · rw [List.getElem?_eq_none h1] at hv; cases hv
    have hjl : j < ls.length := by
      rcases Nat.lt_or_ge j ls.length with h1 | h1
      · exact h1
      · rw [List.getElem?_eq_none h1] at hj; cases hj
    have hlt : j * L.k + i < ls.length * L.k := by
      have : (j + 1) * L.k ≤ ls.length * L.k := Nat.mul_le_mul_right _ hjl
      rw [Nat.succ_mul] at this
      omega
    have h1 := World.ownsRow.cellAt h0 (j * L.k + i) hlt
    rw [Nat.zero_add, h1, L.all_get ls j x hj i hik]
    exact hv

/-- The closed facts of a struct's type and of the type of its slices. -/
structure Ty (L : Lay τ) (t e : TypeId) (bytes : Nat) : Prop where
  sl : Try.prog.underlying t = some (.slice e)
  info : ∃ i z, Try.prog.info? e = some i ∧ i.zero = some z ∧ i.size = L.k ∧ i.bytes = bytes ∧ z.cells.size = L.k
  small : bytes ≤ 1000

theorem run_appC {L : Lay τ} {t e : TypeId} {bytes : Nat} (T : Ty L t e bytes) (w : World) (ty base : Nat) (v : Value) (xs : List τ) (p : Option Addr) (cap : Nat) (l : List τ) (hown : OC L e w base v xs) (hl : CI L w p cap l)
    (hlen : xs.length + l.length ≤ 1000000000) (hbase : base ≤ w.heap.size) :
    ∃ v' w', (Builtin.append_ #[t, t] ty #[v, .slice p l.length cap]).run Try.prog w = .ok v' w' ∧ OC L e w' base v' (xs ++ l) ∧ w.grownBy w' v.ownBlock ∧ (v'.ownBlock = v.ownBlock ∨ v'.ownBlock = some w.heap.size) := by
  obtain ⟨i, z, hi, hz, hs, hby, hzc⟩ := T.info
  cases p with
  | some a =>
    obtain ⟨v', w', hrun, h2, h3, _, h5⟩ := run_append_own_at (P := Try.prog) w base t ty e i z L.k bytes T.sl hi hz hs hby hzc L.pos v xs.length (L.all xs) hown
      a l.length cap (L.all l) (L.all_len l) (fun j u hu => by
        have hjl : j < (L.all l).length := by
          rcases Nat.lt_or_ge j (L.all l).length with h | h
          · exact h
          · rw [List.getElem?_eq_none h] at hu; cases hu
        rw [L.all_len] at hjl
        have hp := L.pos
        have h0 : 0 < l.length := by
          rcases Nat.eq_zero_or_pos l.length with h | h
          · rw [h, Nat.zero_mul] at hjl; omega
          · exact h
        obtain ⟨b, off, ea, _, hc⟩ := hl.2.2 h0
        injection ea with ea
        subst ea
        have hq : j / L.k < l.length := Nat.div_lt_of_lt_mul (by rw [Nat.mul_comm]; exact hjl)
        have hm : j % L.k < L.k := Nat.mod_lt _ hp
        have hj : j / L.k * L.k + j % L.k = j := by rw [Nat.mul_comm]; exact Nat.div_add_mod j L.k
        have hx : l[j / L.k]? = some l[j / L.k] := List.getElem?_eq_getElem hq
        have hg := L.all_get l (j / L.k) _ hx (j % L.k) hm
        rw [hj, hu] at hg
        have := hc (j / L.k) _ hx (j % L.k) u hg.symm
        rw [hj] at this
        rw [add_plain]
        exact this) (L.all_one l) (by unfold maxLen; omega) (Nat.le_trans (Nat.mul_le_mul hlen T.small) (by omega)) hbase
    refine ⟨v', w', hrun, ?_, h3, h5⟩
    unfold OC
    rw [List.length_append, L.all_append]
    exact h2
  | none =>
    have : l = [] := by
      by_cases h0 : 0 < l.length
      · obtain ⟨b, off, ea, _⟩ := hl.2.2 h0; cases ea
      · exact List.eq_nil_of_length_eq_zero (by omega)
    subst this
    refine ⟨v, w, ?_, by simpa using hown, ⟨rfl, rfl, rfl, Nat.le_refl _, fun _ _ _ => rfl⟩, .inl rfl⟩
    obtain ⟨hll, ⟨rfl, hn⟩ | ⟨g, cap', cur, rfl, _, _, hnc, _⟩⟩ := hown
    · simp [Builtin.append_, run_underlying T.sl, sizeOf, typeInfo, hi, Builtin.lenOf, Builtin.firstCells]
    · simp [Builtin.append_, run_underlying T.sl, sizeOf, typeInfo, hi, Builtin.lenOf, Builtin.firstCells, hnc, storeCells]

theorem wp_appC {L : Lay τ} {t e : TypeId} {bytes : Nat} (T : Ty L t e bytes) {w : World} {ops : Array Oper} {rest : List Oper} {o : Oper} {a : Act} {Q : Exit → Act → World → Prop} (hgd : o.guard = none) (s x : Operand)
    (ho : o.op = .call { callee := .builtin .append, args := #[s, x], argTypes := #[t, t] })
    (base : Nat) (v : Value) (xs : List τ) (p : Option Addr) (cap n : Nat) (l : List τ) (hs : a.eval s = v) (hown : OC L e w base v xs) (hx : a.eval x = .slice p n cap) (hn : n = l.length) (hl : CI L w p cap l)
    (hlen : xs.length + l.length ≤ 1000000000) (hbase : base ≤ w.heap.size)
    (h : ∀ v' w', OC L e w' base v' (xs ++ l) → w.grownBy w' v.ownBlock → (v'.ownBlock = v.ownBlock ∨ v'.ownBlock = some w.heap.size) → wpList Try.prog ops Q rest (a.put o.dst v') w') :
    wpList Try.prog ops Q (o :: rest) a w := by
  refine wpList_plain hgd fun _ hK => ?_
  obtain ⟨v', w', hrun, h2, h3, h4⟩ := run_appC T w o.type base v xs p cap l hown hl hlen hbase
  unfold Oper.wp execOp
  rw [hn] at hx
  simp only [ho, resolve, invoke, builtin, Sem.run_bind, Sem.run_pure, Result.andThen_ok, List.map_toArray, List.map_cons, List.map_nil, hs, hx, hrun]
  exact hK _ _ (h v' w' h2 h3 h4)
theorem step_appC {L : Lay τ} {t e : TypeId} {bytes : Nat} (T : Ty L t e bytes) {w : World} {ops : Array Oper} {o : Oper} {a : Act} {K : Act → World → Prop} {Q : Exit → Act → World → Prop} {E : Prop} (hgd : o.guard = none) (s x : Operand)
    (ho : o.op = .call { callee := .builtin .append, args := #[s, x], argTypes := #[t, t] })
    (base : Nat) (v : Value) (xs : List τ) (p : Option Addr) (cap n : Nat) (l : List τ) (hs : a.eval s = v) (hown : OC L e w base v xs) (hx : a.eval x = .slice p n cap) (hn : n = l.length) (hl : CI L w p cap l)
    (hlen : xs.length + l.length ≤ 1000000000) (hbase : base ≤ w.heap.size)
    (h : ∀ v' w', OC L e w' base v' (xs ++ l) → w.grownBy w' v.ownBlock → (v'.ownBlock = v.ownBlock ∨ v'.ownBlock = some w.heap.size) → K (a.put o.dst v') w') :
    if Region.wanted o (yielded ops a.tmps) = true then Oper.wp Try.prog o a w K Q else E := by
  have hw : Region.wanted o (yielded ops a.tmps) = true := by simp [Region.wanted, hgd]
  rw [if_pos hw]
  obtain ⟨v', w', hrun, h2, h3, h4⟩ := run_appC T w o.type base v xs p cap l hown hl hlen hbase
  unfold Oper.wp execOp
  rw [hn] at hx
  simp only [ho, resolve, invoke, builtin, Sem.run_bind, Sem.run_pure, Result.andThen_ok, List.map_toArray, List.map_cons, List.map_nil, hs, hx, hrun]
  exact h v' w' h2 h3 h4
theorem below_appC {L : Lay τ} {e : TypeId} {W w w' : World} {base : Nat} {v : Value} {xs : List τ} (hb : Below base W w) (hown : OC L e w base v xs) (hg : w.grownBy w' v.ownBlock) (hB : base ≤ w.heap.size) : Below base W w' :=
  hb.grown hg hB (fun k hk => (hown.lt k hk).1)
theorem below_oneC {L : Lay τ} {e : TypeId} {W w w' : World} {base : Nat} {v : Value} {xs : List τ} (hb : Below base W w) (hB : base ≤ w.heap.size) (o : Obj) (hown : OC L e w base v xs) (hg : (w.alloc o).grownBy w' v.ownBlock) : Below base W w' :=
  below_appC (hb.alloc hB o) (hown.alloc o) hg (Nat.le_trans hB (by simp))
/-- One struct in a new block. -/
theorem CI.one (L : Lay τ) (w : World) (x : τ) (t : TypeId) : CI L (w.alloc (.cells (L.enc x).toArray t)) (some ⟨w.heap.size, 0, none⟩) 1 [x] :=
  ⟨by simp, by simp [maxLen], fun _ => ⟨w.heap.size, 0, rfl, by simp, fun j y hj i v hv => by
    have hj0 : j = 0 := by
      rcases j with _|j
      · rfl
      · simp at hj
    subst hj0
    have e : x = y := by simpa using hj
    subst e
    have : (w.alloc (.cells (L.enc x).toArray t)).heap[w.heap.size]? = some (.cells (L.enc x).toArray t) := alloc_new w _
    unfold World.cell?
    rw [this]
    simpa using hv⟩⟩

/-- A slice of structs as it comes in. -/
theorem open_C {H : Type} {enc : TypeId × Value → H} {w : World} {r : Reach} {b0 : Nat} {L : Lay τ} (G : τ → Prop) {t e : TypeId} {v : Value} {d : DataW H} {ps : List MemPlace}
    (ht : Try.prog.underlying t = some (.slice e)) (hc : Try.prog.cellsOf e = L.k)
    (hdec : ∀ (fuel : Nat) (cs : List Value) (y : DataW H × List MemPlace), DataW.trod enc Try.prog w 0 (fun _ => true) true fuel e cs = some y → ∃ x : τ, cs = L.enc x ∧ G x)
    (hval : Value.okWide Try.prog w r b0 t v) (hd : DataW.Trod enc Try.prog w 0 (fun _ => true) true t v d ps) (hlt : ∀ x ∈ ps, x.block < w.heap.size) :
    ∃ p cap ls, v = .slice p ls.length cap ∧ CI L w p cap ls ∧ (∀ x ∈ ls, G x) ∧ (ls.length = 0 ∨ ∃ es sp, d = .slice es sp ∧ es.length = ls.length) := by
  obtain ⟨a0, len, cap, rfl⟩ := okWide_slice ht hval
  obtain ⟨fuel, hf⟩ := hd
  rcases DataW.trod_slice ht hf with ⟨hcs, hx⟩ | ⟨a, len', cap', elems, rest, n, rfl, hcs, hx, _, hl, hm, hel, helem, hsp, _⟩
  · simp [Value.cells] at hcs
    obtain ⟨rfl, rfl, rfl⟩ := hcs
    exact ⟨none, 0, [], rfl, CI.nil L w, fun x hx => (by simp at hx), .inl rfl⟩
  · simp [Value.cells] at hcs
    obtain ⟨rfl, rfl, rfl⟩ := hcs
    simp only [Prod.mk.injEq] at hx
    obtain ⟨rfl, rfl⟩ := hx
    rw [hc] at helem
    have hex : ∀ i : Nat, i < len → ∃ x : τ, w.cells? 0 (a.add (i * L.k)) L.k = some (L.enc x) ∧ G x := fun i hi => by
      have h1 := helem i hi
      rw [List.getElem?_eq_getElem (by omega)] at h1
      obtain ⟨cs, h2, h3⟩ := Option.bind_eq_some_iff.1 h1
      obtain ⟨x, rfl, hg⟩ := hdec _ _ _ h3
      exact ⟨x, h2, hg⟩
    have hls : ∃ ls : List τ, ls.length = len ∧ ∀ (j : Nat) (x : τ), ls[j]? = some x → w.cells? 0 (a.add (j * L.k)) L.k = some (L.enc x) ∧ G x := by
      clear helem hsp hf hval hlt hl hel
      induction len with
      | zero => exact ⟨[], rfl, fun j x h => by simp at h⟩
      | succ m ih =>
        obtain ⟨ls, h1, h2⟩ := ih (fun i hi => hex i (by omega))
        obtain ⟨x, hx⟩ := hex m (by omega)
        refine ⟨ls ++ [x], by simp [h1], fun j y hj => ?_⟩
        by_cases hjm : j < ls.length
        · rw [List.getElem?_append_left hjm] at hj
          exact h2 j y hj
        · have hj1 : j = m := by
            rcases Nat.lt_or_ge j (ls ++ [x]).length with h | h
            · rw [List.length_append] at h; simp at h; omega
            · rw [List.getElem?_eq_none h] at hj; cases hj
          subst hj1
          rw [List.getElem?_append_right (by omega), h1, Nat.sub_self] at hj
          have : x = y := by simpa using hj
          subst this
          exact hx
    obtain ⟨ls, hlen, hcell⟩ := hls
    refine ⟨some a, cap, ls, by rw [hlen], ⟨by omega, hm, fun hn => ?_⟩, fun x hx => ?_, .inr ⟨_, _, rfl, by simp; omega⟩⟩
    rotate_left
    · obtain ⟨j, hj, rfl⟩ := List.getElem_of_mem hx
      exact (hcell j _ (List.getElem?_eq_getElem hj)).2
    have hp := L.pos
    obtain ⟨b, off, spot⟩ := a
    have hx0 : ls[0]? = some ls[0] := List.getElem?_eq_getElem hn
    obtain ⟨_, _, hc0⟩ := World.cells?_some (hcell 0 _ hx0).1
    have hfirst : ∃ v0, (L.enc ls[0])[0]? = some v0 := ⟨_, List.getElem?_eq_getElem (by rw [L.len]; exact hp)⟩
    obtain ⟨v0, hv0⟩ := hfirst
    have hk0 := (hc0 0 hp).trans hv0
    have hspot : spot = none := by simpa [Addr.add] using World.cell?_spot hk0
    subst hspot
    refine ⟨b, off, rfl, ?_, fun j x hj i v hv => ?_⟩
    · exact hlt (.cell b off) (List.mem_append_left _ (MemPlace.mem_row.2 ⟨0, by
        have : 0 < (elems.length + rest.length) * Try.prog.cellsOf e := Nat.mul_pos (by omega) (by rw [hc]; exact hp)
        exact this, by simp⟩))
    · obtain ⟨_, _, hcj⟩ := World.cells?_some (hcell j x hj).1
      have hik : i < L.k := by
        rcases Nat.lt_or_ge i (L.enc x).length with h1 | h1
        · rw [L.len] at h1; exact h1
        · rw [List.getElem?_eq_none h1] at hv; cases hv
      have := (hcj i hik).trans hv
      rw [add_plain, add_plain, Nat.add_assoc] at this
      exact this
end Go.Proofs.Ytcleanjacijfoaa.Cells
