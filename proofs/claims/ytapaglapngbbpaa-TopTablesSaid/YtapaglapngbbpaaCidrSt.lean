/- How the growing list lies in memory. No statement is proved here. -/
import Derived.Test.YtapaglapngbbpaaCidrAdd
namespace Go.Proofs.Ytapaglapngbbpaa.Cidr
open Go.ChangeShapes Go.WideShapes Go.ChangeAt Go.RowKit Go.Sort Go.Proofs.Ytapaglapngbbpaa.Kit Go.Proofs.Ytapaglapngbbpaa.App Go.Proofs.Ytapaglapngbbpaa.Cells Go.Proofs.Ytapaglapngbbpaa.CidrMath
set_option linter.unusedVariables false
set_option maxRecDepth 20000

theorem gb_set (W : World) (b o : Nat) (v : Value) : W.grownBy (W.setCell ⟨b, o, none⟩ v) (some b) :=
  ⟨rfl, rfl, rfl, by simp, fun k hk hne => by
    have hb : ¬ b = k := fun e => hne (by rw [e])
    unfold World.setCell
    simp only
    rw [Array.getElem?_modify, if_neg hb]⟩
theorem set_other (W : World) (b o : Nat) (v : Value) (k : Nat) (hk : k ≠ b) : (W.setCell ⟨b, o, none⟩ v).heap[k]? = W.heap[k]? := by
  have hb : ¬ b = k := fun e => hk e.symm
  unfold World.setCell
  simp only
  rw [Array.getElem?_modify, if_neg hb]
theorem frozen_of_block {w w' : World} {a : Addr} (h : w'.heap[a.block]? = w.heap[a.block]?) : w'.frozen? a = w.frozen? a := by
  unfold World.frozen?
  rw [h]

/-- How it stands: the list's value lies in a cell, and holds L. -/
structure St (w : World) (base gb : Nat) (v : Value) (L : List Pfx) : Prop where
  own : OC lay 24 w base v L
  cell : w.cell? ⟨gb, 0, none⟩ = some v
  fz : w.frozen? ⟨gb, 0, none⟩ = false
  ne : v.ownBlock ≠ some gb
  b : gb < base ∧ gb < w.heap.size
theorem St.below {w w' : World} {base gb : Nat} {v : Value} {L : List Pfx} (S : St w base gb v L) (hb : Below w.heap.size w w') : St w' base gb v L :=
  ⟨S.own.below hb, (hb.cell (p := ⟨gb, 0, none⟩) S.b.2).trans S.cell, (frozen_of_block (a := ⟨gb, 0, none⟩) (hb.block _ S.b.2)).trans S.fz, S.ne, S.b.1, Nat.lt_of_lt_of_le S.b.2 hb.size⟩
theorem St.drew {w : World} {base gb : Nat} {v : Value} {L : List Pfx} (S : St w base gb v L) : St w.drew base gb v L := ⟨S.own, S.cell, S.fz, S.ne, S.b⟩
theorem St.put {w : World} {base gb : Nat} {v v' : Value} {L' : List Pfx} (hc : w.cell? ⟨gb, 0, none⟩ = some v) (hf : w.frozen? ⟨gb, 0, none⟩ = false) (hb : gb < base ∧ gb < w.heap.size) (h : OC lay 24 w base v' L') (ne : v'.ownBlock ≠ some gb) : St (w.setCell ⟨gb, 0, none⟩ v') base gb v' L' :=
  ⟨h.more (gb_set w gb 0 v') (.inr ne), World.cell?_setCell_same' _ _ _ (by rw [hc]; rfl), by rw [World.frozen?_setCell]; exact hf, ne, hb.1, by simpa using hb.2⟩
theorem oc_some {w : World} {base : Nat} {v : Value} {L : List Pfx} (h : OC lay 24 w base v L) (h0 : 0 < L.length) : ∃ g cap, v = .slice (some ⟨g, 0, none⟩) L.length cap ∧ base ≤ g ∧ g < w.heap.size ∧ L.length ≤ cap ∧ cap ≤ maxLen := by
  obtain ⟨_, ⟨rfl, hz⟩ | ⟨g, cp, cur, rfl, h1, h2, h3, h4, _⟩⟩ := h
  · omega
  · exact ⟨g, cp, rfl, h1, (Array.getElem?_eq_some_iff.1 h2).1, h3, h4⟩
theorem oc_at {w : World} {base g cap n : Nat} {l : List Pfx} (h : OC lay 24 w base (.slice (some ⟨g, 0, none⟩) n cap) l) (hn : n = l.length) (k : Nat) (y : Pfx) (hy : l[k]? = some y) :
    w.cell? ⟨g, k * 2, none⟩ = some (.int .i64 y.adr) ∧ w.cell? ⟨g, k * 2 + 1, none⟩ = some (.int .i64 y.len) ∧ ∀ j, w.frozen? ⟨g, j, none⟩ = false := by
  subst hn
  have hk : k < l.length := by
    rcases Nat.lt_or_ge k l.length with h | h
    · exact h
    · rw [List.getElem?_eq_none h] at hy; cases hy
  refine ⟨?_, ?_, fun j => World.ownsRow.frozenAt h j⟩
  · have := World.ownsRow.cellAt h (k * 2) (show k * 2 < l.length * 2 by omega)
    exact this.trans (lay.all_get l k y hy 0 (by show 0 < 2; omega))
  · have := World.ownsRow.cellAt h (k * 2 + 1) (show k * 2 + 1 < l.length * 2 by omega)
    exact this.trans (lay.all_get l k y hy 1 (by show 1 < 2; omega))
theorem all_set1 : ∀ (l : List Pfx) (k : Nat) (y : Pfx) (m : Int), l[k]? = some y → (lay.all l).set (k * 2 + 1) (.int .i64 m) = lay.all (l.set k ⟨y.adr, m⟩)
  | [], k, y, m, h => by simp at h
  | z :: l, 0, y, m, h => by
    have e : z = y := by simpa using h
    subst e; rfl
  | z :: l, k + 1, y, m, h => by
    have ih := all_set1 l k y m (by simpa using h)
    show (encP z ++ lay.all l).set ((k + 1) * 2 + 1) _ = encP z ++ lay.all (l.set k _)
    rw [← ih, List.set_append_right _ _ (by show 2 ≤ _; omega)]
    congr 2
    show (k + 1) * 2 + 1 - 2 = k * 2 + 1
    omega
theorem oc_set1 {w : World} {base g cap : Nat} {n : Nat} {l : List Pfx} (h : OC lay 24 w base (.slice (some ⟨g, 0, none⟩) n cap) l) (hn : n = l.length) (k : Nat) (y : Pfx) (hy : l[k]? = some y) (m : Int) :
    OC lay 24 (w.setCell ⟨g, k * 2 + 1, none⟩ (.int .i64 m)) base (.slice (some ⟨g, 0, none⟩) n cap) (l.set k ⟨y.adr, m⟩) := by
  subst hn
  have := (World.ownsRow.stored h (k * 2 + 1) (.int .i64 m)).1
  rw [all_set1 l k y m hy] at this
  unfold OC
  rw [List.length_set]
  exact this
theorem set_last (l : List Pfx) (y z : Pfx) (k : Nat) (hk : l.length = k) : (l ++ [y]).set k z = l ++ [z] := by
  subst hk
  rw [List.set_append_right _ _ (Nat.le_refl _), Nat.sub_self]
  rfl
theorem get_last (l : List Pfx) (y : Pfx) (k : Nat) (hk : l.length = k) : (l ++ [y])[k]? = some y := by
  subst hk
  rw [List.getElem?_append_right (Nat.le_refl _), Nat.sub_self]
  rfl
theorem St.set {w : World} {base gb g cap n : Nat} {l : List Pfx} {y : Pfx} (S : St w base gb (.slice (some ⟨g, 0, none⟩) n cap) (l ++ [y])) (k : Nat) (hk : l.length = k) (hn : n = k + 1) (m : Int) :
    St (w.setCell ⟨g, k * 2 + 1, none⟩ (.int .i64 m)) base gb (.slice (some ⟨g, 0, none⟩) n cap) (l ++ [⟨y.adr, m⟩]) := by
  have h := oc_set1 S.own (by rw [List.length_append, hk]; exact hn) k y (get_last l y k hk) m
  rw [set_last l y _ k hk] at h
  have hne : g ≠ gb := fun e => S.ne (by rw [← e]; rfl)
  have hbk := (gb_set w g (k * 2 + 1) (.int .i64 m)).block gb S.b.2 (by simpa using fun e => hne e.symm)
  exact ⟨h, (World.cell?_of_block (w := w) (a := ⟨gb, 0, none⟩) hbk).trans S.cell, (frozen_of_block (a := ⟨gb, 0, none⟩) hbk).trans S.fz, S.ne, S.b.1, by simpa using S.b.2⟩
/-- What lay ahead is as it was, but for the list's own cell. -/
structure Kp (base gb : Nat) (w w' : World) : Prop where
  os : w'.os = w.os
  tape : w'.tape = w.tape
  output : w'.output = w.output
  size : w.heap.size ≤ w'.heap.size
  block : ∀ k, k < base → k ≠ gb → w'.heap[k]? = w.heap[k]?
theorem Kp.refl (base gb : Nat) (w : World) : Kp base gb w w := ⟨rfl, rfl, rfl, Nat.le_refl _, fun _ _ _ => rfl⟩
theorem Kp.trans {base gb : Nat} {a b c : World} (h : Kp base gb a b) (k : Kp base gb b c) : Kp base gb a c :=
  ⟨k.os.trans h.os, k.tape.trans h.tape, k.output.trans h.output, Nat.le_trans h.size k.size, fun i hi hn => (k.block i hi hn).trans (h.block i hi hn)⟩
theorem Kp.of {base gb : Nat} {a b : World} (h : Below base a b) : Kp base gb a b := ⟨h.os, h.tape, h.output, h.size, fun k hk _ => h.block k hk⟩
theorem Kp.gr {base gb : Nat} {a b c : World} (h : Kp base gb a b) (hb : base ≤ b.heap.size) (g : Gr b c) : Kp base gb a c := h.trans (Kp.of (g.below.mono hb))
theorem Kp.setgb {base gb o : Nat} {a b : World} {v : Value} (h : Kp base gb a b) : Kp base gb a (b.setCell ⟨gb, o, none⟩ v) :=
  h.trans ⟨rfl, rfl, rfl, by simp, fun k hk hn => set_other b gb o v k hn⟩
theorem Kp.set {base gb x o : Nat} {a b : World} {v : Value} (h : Kp base gb a b) (hx : base ≤ x) : Kp base gb a (b.setCell ⟨x, o, none⟩ v) :=
  h.trans ⟨rfl, rfl, rfl, by simp, fun k hk hn => set_other b x o v k (by omega)⟩
theorem Kp.down {base gb B : Nat} {a b : World} (h : Kp base gb a b) (h1 : B ≤ base) (h2 : B ≤ gb) : Below B a b := ⟨h.os, h.tape, h.output, h.size, fun k hk => h.block k (by omega) (by omega)⟩
/-- The slice without its last one. -/
theorem oc_cut {w : World} {base g cap n m : Nat} {l : List Pfx} {z : Pfx} (h : OC lay 24 w base (.slice (some ⟨g, 0, none⟩) m cap) (l ++ [z])) (hn : n = l.length) : OC lay 24 w base (.slice (some ⟨g, 0, none⟩) n cap) l := by
  subst hn
  obtain ⟨hl, ⟨e, _⟩ | ⟨g', cap', cur, e, hb, hh, hnc, hcm, hcs, ht⟩⟩ := h
  · simp at e
  · simp only [Value.slice.injEq, Option.some.injEq, Addr.mk.injEq] at e
    obtain ⟨⟨rfl, _, _⟩, _, rfl⟩ := e
    rw [List.length_append] at hnc ht
    rw [List.length_singleton] at hnc ht
    refine ⟨lay.all_len l, .inr ⟨g, cap, cur, rfl, hb, hh, by omega, hcm, hcs, ?_⟩⟩
    have h2 : lay.k = 2 := rfl
    have h3 : cur.toList.take (l.length * lay.k) = (cur.toList.take ((l.length + 1) * lay.k)).take (l.length * lay.k) := by
      rw [List.take_take]; congr 1; rw [h2]; omega
    rw [h3, ht, lay.all_append, List.take_append_of_le_length (by rw [lay.all_len]; exact Nat.le_refl _), List.take_of_length_le (by rw [lay.all_len]; exact Nat.le_refl _)]
end Go.Proofs.Ytapaglapngbbpaa.Cidr
