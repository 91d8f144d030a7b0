/- Rows of numbers: of the call's own, read, compared; the contract of Frames of package stuff. No statement is proved here. -/
import Derived.Test.YtcleanjacijfoaaStuff3
namespace Go.Proofs.Ytcleanjacijfoaa.Stuff
open Go.ChangeShapes Go.WideShapes Go.ChangeAt Go.RowKit
open Go.Proofs.Ytcleanjacijfoaa.Kit Go.Proofs.Ytcleanjacijfoaa.App Go.Proofs.Ytcleanjacijfoaa.StuffMath
set_option linter.unusedVariables false

theorem info_row : (Try.prog.info? 22).map (fun i => (i.zero, i.size, i.bytes)) = some (some (.slice none 0 0), 1, 24) := by kernel_rfl

/-- A slice of rows reads as lists of numbers. -/
def RowsI (w : World) (p : Option Addr) (cap : Nat) (ls : List (List Int)) : Prop :=
  ls.length ≤ cap ∧ cap ≤ maxLen ∧ (0 < ls.length → ∃ b off, p = some ⟨b, off, none⟩ ∧ b < w.heap.size ∧
    ∀ j : Nat, j < ls.length → ∃ q c, w.cell? ⟨b, off + j, none⟩ = some (.slice q (ls[j]?.getD []).length c) ∧ Ints w q c (ls[j]?.getD []))
theorem RowsI.below {w w' : World} {p : Option Addr} {cap : Nat} {ls : List (List Int)} (h : RowsI w p cap ls) (hb : Below w.heap.size w w') : RowsI w' p cap ls :=
  ⟨h.1, h.2.1, fun hn => by
    obtain ⟨b, off, e, hbs, hc⟩ := h.2.2 hn
    refine ⟨b, off, e, Nat.lt_of_lt_of_le hbs hb.size, fun j hj => ?_⟩
    obtain ⟨q, c, hq, hi⟩ := hc j hj
    exact ⟨q, c, (hb.cell (p := ⟨b, off + j, none⟩) hbs).trans hq, hi.below hb⟩⟩
theorem RowsI.len_le {w : World} {p : Option Addr} {cap : Nat} {ls : List (List Int)} (h : RowsI w p cap ls) : ls.length ≤ 9223372036854775807 := by
  have h1 := h.1; have h2 := h.2.1; unfold maxLen at h2; omega
theorem RowsI.nil (w : World) : RowsI w none 0 [] := ⟨by simp, by simp, by simp⟩

/-- A slice of the call's own that holds rows, none empty. -/
def OwnR (w : World) (base : Nat) (v : Value) (ls : List (List Int)) : Prop :=
  ∃ vs : List Value, w.ownsRow base 22 1 v ls.length vs ∧ ∀ j : Nat, j < ls.length → ∃ q c, vs[j]? = some (.slice q (ls[j]?.getD []).length c) ∧ Ints w q c (ls[j]?.getD []) ∧ 0 < (ls[j]?.getD []).length ∧ ∀ a, q = some a → v.ownBlock ≠ some a.block

theorem OwnR.nil (w : World) (base : Nat) : OwnR w base (.slice none 0 0) [] := ⟨[], ⟨by simp, .inl ⟨rfl, rfl⟩⟩, fun j hj => absurd hj (Nat.not_lt_zero _)⟩
theorem OwnR.below {w w' : World} {base : Nat} {v : Value} {ls : List (List Int)} (h : OwnR w base v ls) (hb : Below w.heap.size w w') : OwnR w' base v ls := by
  obtain ⟨vs, ho, he⟩ := h
  refine ⟨vs, ho.kept (row := none) ⟨hb.os, hb.tape, hb.output, hb.size, fun k hk _ => hb.block k hk⟩ (by cases v.ownBlock <;> simp), fun j hj => ?_⟩
  obtain ⟨q, c, e1, e2, e3, e4⟩ := he j hj
  exact ⟨q, c, e1, e2.below hb, e3, e4⟩
theorem OwnR.lt {w : World} {base : Nat} {v : Value} {ls : List (List Int)} (h : OwnR w base v ls) : ∀ k, v.ownBlock = some k → base ≤ k ∧ k < w.heap.size := by
  obtain ⟨vs, ho, _⟩ := h
  exact ho.lt
theorem OwnR.form {w : World} {base : Nat} {v : Value} {ls : List (List Int)} (h : OwnR w base v ls) : ∃ p cap, v = .slice p ls.length cap ∧ RowsI w p cap ls := by
  obtain ⟨vs, ⟨hl, ⟨rfl, hn⟩ | ⟨g, cap, cur, rfl, hb, hh, hnc, hcm, hcs, ht⟩⟩, he⟩ := h
  · have : ls = [] := List.eq_nil_of_length_eq_zero hn
    subst this
    exact ⟨none, 0, rfl, RowsI.nil w⟩
  · refine ⟨_, cap, rfl, hnc, hcm, fun h0 => ⟨g, 0, rfl, (Array.getElem?_eq_some_iff.1 hh).1, fun j hj => ?_⟩⟩
    obtain ⟨q, c, e1, e2, _, _⟩ := he j hj
    refine ⟨q, c, ?_, e2⟩
    have h1 := World.ownsRow.cellAt (base := base) (e := 22) (size := 1) (n := ls.length) (xs := vs) (w := w) (g := g) (cap := cap) ⟨hl, .inr ⟨g, cap, cur, rfl, hb, hh, hnc, hcm, hcs, ht⟩⟩ j (by omega)
    rw [Nat.zero_add, h1, e1]

theorem run_appR (w : World) (ty base : Nat) (v : Value) (ls : List (List Int)) (a : Addr) (q : Option Addr) (n c : Nat) (l : List Int) (hown : OwnR w base v ls) (hcell : w.cell? a = some (.slice q n c)) (hn : n = l.length) (hl : Ints w q c l) (h0 : 0 < l.length)
    (hsep : ∀ x, q = some x → v.ownBlock ≠ some x.block) (hlen : ls.length ≤ 1000000000) (hbase : base ≤ w.heap.size) :
    ∃ v' w', (Builtin.append_ #[40, 40] ty #[v, .slice (some a) 1 1]).run Try.prog w = .ok v' w' ∧ OwnR w' base v' (ls ++ [l]) ∧ w.grownBy w' v.ownBlock ∧ (v'.ownBlock = v.ownBlock ∨ v'.ownBlock = some w.heap.size) := by
  subst hn
  obtain ⟨i, hi, hz, hs, hby⟩ := info_parts info_row
  obtain ⟨vs, ho, he⟩ := hown
  obtain ⟨v', w', hrun, h2, h3, _, h5⟩ := run_append_own_at (P := Try.prog) w base 40 ty 22 i (.slice none 0 0) 1 24 Try.underlying40 hi hz hs hby rfl (by omega) v ls.length vs ho
      a 1 1 [.slice q l.length c] (by simp) (fun j u hu => by
        rcases j with _|j
        · have : u = .slice q l.length c := by simpa using hu.symm
          rw [this, ← hcell]; rfl
        · simp at hu) (fun u hu => by simp at hu; subst hu; rfl) (by unfold maxLen; omega) (by omega) hbase
  have hvl : vs.length = ls.length := by have := ho.1; omega
  obtain ⟨_, _, _, g4, g5⟩ := id h3
  have keep : ∀ (q : Option Addr) (c : Nat) (m : List Int), Ints w q c m → (∀ x, q = some x → v.ownBlock ≠ some x.block) → Ints w' q c m := fun q c m hm hs =>
    hm.keep g4 (fun x hx hlt => g5 x.block hlt (fun e => hs x hx e.symm))
  have sep : ∀ (q : Option Addr) (c : Nat) (m : List Int), Ints w q c m → 0 < m.length → (∀ x, q = some x → v.ownBlock ≠ some x.block) → ∀ x, q = some x → v'.ownBlock ≠ some x.block := fun q c m hm h0 hs x hx => by
    rcases h5 with e | e
    · rw [e]; exact hs x hx
    · rw [e]
      obtain ⟨b, off, e1, hb, _⟩ := hm.2.2.2 h0
      rw [hx] at e1
      injection e1 with e1
      subst e1
      intro e2
      injection e2 with e2
      simp only at e2 hb
      omega
  refine ⟨v', w', hrun, ⟨vs ++ [.slice q l.length c], by rw [List.length_append]; exact h2, fun j hj => ?_⟩, h3, h5⟩
  rw [List.length_append] at hj
  simp only [List.length_cons, List.length_nil] at hj
  by_cases h1 : j < ls.length
  · obtain ⟨q', c', e1, e2, e3, e4⟩ := he j h1
    rw [List.getElem?_append_left h1]
    exact ⟨q', c', by rw [List.getElem?_append_left (by omega), e1], keep _ _ _ e2 e4, e3, sep _ _ _ e2 e3 e4⟩
  · obtain rfl : j = ls.length := by omega
    have e : (ls ++ [l])[ls.length]?.getD [] = l := by simp
    rw [e]
    exact ⟨q, c, by rw [List.getElem?_append_right (by omega), hvl]; simp, keep _ _ _ hl hsep, h0, sep _ _ _ hl h0 hsep⟩

theorem wp_appR {w : World} {ops : Array Oper} {rest : List Oper} {o : Oper} {a : Act} {Q : Exit → Act → World → Prop} (hgd : o.guard = none) (s x : Operand)
    (ho : o.op = .call { callee := .builtin .append, args := #[s, x], argTypes := #[40, 40] })
    (base : Nat) (v : Value) (ls : List (List Int)) (ad : Addr) (q : Option Addr) (n c : Nat) (l : List Int) (hs : a.eval s = v) (hown : OwnR w base v ls) (hx : a.eval x = .slice (some ad) 1 1) (hcell : w.cell? ad = some (.slice q n c)) (hn : n = l.length) (hl : Ints w q c l) (h0 : 0 < l.length)
    (hsep : ∀ x, q = some x → v.ownBlock ≠ some x.block) (hlen : ls.length ≤ 1000000000) (hbase : base ≤ w.heap.size)
    (h : ∀ v' w', OwnR w' base v' (ls ++ [l]) → w.grownBy w' v.ownBlock → (v'.ownBlock = v.ownBlock ∨ v'.ownBlock = some w.heap.size) → wpList Try.prog ops Q rest (a.put o.dst v') w') :
    wpList Try.prog ops Q (o :: rest) a w := by
  refine wpList_plain hgd fun _ hK => ?_
  obtain ⟨v', w', hrun, h2, h3, h4⟩ := run_appR w o.type base v ls ad q n c l hown hcell hn hl h0 hsep hlen hbase
  unfold Oper.wp execOp
  simp only [ho, resolve, invoke, builtin, Sem.run_bind, Sem.run_pure, Result.andThen_ok, List.map_toArray, List.map_cons, List.map_nil, hs, hx, hrun]
  exact hK _ _ (h v' w' h2 h3 h4)
theorem below_appR {W w w' : World} {base : Nat} {v : Value} {ls : List (List Int)} (hb : Below base W w) (hown : OwnR w base v ls) (hg : w.grownBy w' v.ownBlock) (hB : base ≤ w.heap.size) : Below base W w' :=
  hb.grown hg hB (fun k hk => (hown.lt k hk).1)

end Go.Proofs.Ytcleanjacijfoaa.Stuff
