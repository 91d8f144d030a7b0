/- How a wheel lies in memory. X: blocks that are none of the wheel's. No statement is proved here. -/
import Derived.Test.YtjknojfdlpgicaaDoorQueue
import Derived.Test.YtjknojfdlpgicaaDoorApt
import Derived.Test.YtjknojfdlpgicaaDoorBlk
import Derived.Test.YtjknojfdlpgicaaDoorMapZ
namespace Go.Proofs.YtjknojfdlpgicaaDoor.Wheel
open Go.ChangeShapes Go.WideShapes Go.ChangeAt Go.RowKit Go.Proofs.YtjknojfdlpgicaaDoor.Kit Go.Proofs.YtjknojfdlpgicaaDoor.App Go.Proofs.YtjknojfdlpgicaaDoor.Queue Go.Proofs.YtjknojfdlpgicaaDoor.MapZ Go.Proofs.YtjknojfdlpgicaaDoor.WheelMath
set_option linter.unusedVariables false
set_option maxRecDepth 20000

/-- The blocks X are as they were. -/
structure Keep (X : Nat → Prop) (w w' : World) : Prop where
  os : w'.os = w.os
  tape : w'.tape = w.tape
  output : w'.output = w.output
  size : w.heap.size ≤ w'.heap.size
  block : ∀ k, X k → w'.heap[k]? = w.heap[k]?
variable {X Y : Nat → Prop} {w w' w'' : World}
theorem Keep.refl (X : Nat → Prop) (w : World) : Keep X w w := ⟨rfl, rfl, rfl, Nat.le_refl _, fun _ _ => rfl⟩
theorem Keep.trans (h : Keep X w w') (h' : Keep X w' w'') : Keep X w w'' :=
  ⟨h'.os.trans h.os, h'.tape.trans h.tape, h'.output.trans h.output, Nat.le_trans h.size h'.size, fun k hk => (h'.block k hk).trans (h.block k hk)⟩
theorem Keep.grown (h : Keep X w w') {row : Option Nat} (hg : w'.grownBy w'' row) (hr : ∀ k, X k → some k ≠ row) (hx : ∀ k, X k → k < w'.heap.size) : Keep X w w'' :=
  h.trans ⟨hg.os, hg.tape, hg.output, hg.size, fun k hk => hg.block k (hx k hk) (hr k hk)⟩
theorem Keep.below {B : Nat} (h : Keep X w w') (hX : ∀ k, k < B → X k) : Below B w w' := ⟨h.os, h.tape, h.output, h.size, fun k hk => h.block k (hX k hk)⟩
theorem Keep.mono (h : Keep X w w') (hX : ∀ k, Y k → X k) : Keep Y w w' := ⟨h.os, h.tape, h.output, h.size, fun k hk => h.block k (hX k hk)⟩
theorem Keep.drewN (h : Keep X w w') (m : Nat) : Keep X w (w'.drewN m) := ⟨h.os, h.tape, h.output, h.size, h.block⟩

def cellsW (m now : Nat) (sv : Nat → Value) : List Value := (List.range 400).map sv ++ [.int .i64 (now : Int), .map (some m)]
theorem cells_slot (m now : Nat) (sv : Nat → Value) {s : Nat} (hs : s < 400) : (cellsW m now sv)[s]? = some (sv s) := by
  unfold cellsW
  rw [List.getElem?_append_left (by simpa using hs)]
  simp [hs]
theorem cells_now (m now : Nat) (sv : Nat → Value) : (cellsW m now sv)[400]? = some (.int .i64 (now : Int)) := by
  unfold cellsW
  rw [List.getElem?_append_right (by simp)]
  simp
theorem cells_map (m now : Nat) (sv : Nat → Value) : (cellsW m now sv)[401]? = some (.map (some m)) := by
  unfold cellsW
  rw [List.getElem?_append_right (by simp)]
  simp
theorem cells_len (m now : Nat) (sv : Nat → Value) : (cellsW m now sv).length = 402 := by simp [cellsW]
theorem set_slot (m now : Nat) (sv : Nat → Value) {s : Nat} (hs : s < 400) (v : Value) : (cellsW m now sv).set s v = cellsW m now (updQ sv s v) := by
  refine List.ext_getElem? fun k => ?_
  rw [List.getElem?_set]
  by_cases e : s = k
  · subst e
    rw [if_pos rfl, if_pos (by rw [cells_len]; omega), cells_slot _ _ _ hs, updQ_same]
  · rw [if_neg e]
    by_cases h1 : k < 400
    · rw [cells_slot _ _ _ h1, cells_slot _ _ _ h1, updQ_other _ _ (fun h => e h.symm)]
    · by_cases h2 : k = 400
      · subst h2; rw [cells_now, cells_now]
      · by_cases h3 : k = 401
        · subst h3; rw [cells_map, cells_map]
        · rw [List.getElem?_eq_none (by rw [cells_len]; omega), List.getElem?_eq_none (by rw [cells_len]; omega)]
theorem set_now (m now : Nat) (sv : Nat → Value) (now' : Nat) : (cellsW m now sv).set 400 (.int .i64 (now' : Int)) = cellsW m now' sv := by
  refine List.ext_getElem? fun k => ?_
  rw [List.getElem?_set]
  by_cases e : 400 = k
  · subst e
    rw [if_pos rfl, if_pos (by rw [cells_len]; omega), cells_now]
  · rw [if_neg e]
    by_cases h1 : k < 400
    · rw [cells_slot _ _ _ h1, cells_slot _ _ _ h1]
    · by_cases h3 : k = 401
      · subst h3; rw [cells_map, cells_map]
      · rw [List.getElem?_eq_none (by rw [cells_len]; omega), List.getElem?_eq_none (by rw [cells_len]; omega)]

/-- Block b is a wheel: its map in block m, the time, the slots' slices, what they hold, what the map holds. -/
structure St (X : Nat → Prop) (w : World) (b m n now : Nat) (sv : Nat → Value) (q : Nat → List Int) (h : Int → Option Int) : Prop where
  blk : Blk 41 w b (cellsW m now sv)
  map : Mz w m n h
  own : ∀ s, s < 400 → OwnQ w 0 (sv s) (q s)
  bm : b ≠ m
  bs : ∀ s, s < 400 → ∀ k, (sv s).ownBlock = some k → k ≠ b ∧ k ≠ m ∧ ¬ X k
  apt : ∀ s t, s < 400 → t < 400 → s ≠ t → Apt (sv s) (sv t)
  xb : ¬ X b
  xm : ¬ X m
  xl : ∀ k, X k → k < w.heap.size
variable {b m n now : Nat} {sv : Nat → Value} {q : Nat → List Int} {h : Int → Option Int}
theorem own_ne {v : Value} {row : Option Nat} (h : ∀ k, v.ownBlock = some k → row ≠ some k) : v.ownBlock = none ∨ v.ownBlock ≠ row := by
  cases hv : v.ownBlock with
  | none => exact .inl rfl
  | some k => exact .inr (fun e => h k hv e.symm)
/-- Memory moved elsewhere; other blocks are not the wheel's now. -/
theorem St.more (H : St X w b m n now sv q h) {row : Option Nat} (hg : w.grownBy w' row) (hr : ∀ k, row = some k → X k) (hY : ∀ k, Y k → (X k ∨ w.heap.size ≤ k) ∧ k < w'.heap.size) : St Y w' b m n now sv q h := by
  have hne : ∀ k, ¬ X k → some k ≠ row := fun k hk e => hk (hr k e.symm)
  have hy : ∀ k, ¬ X k → k < w.heap.size → ¬ Y k := fun k h1 h2 h3 => by
    rcases (hY k h3).1 with h4 | h4
    · exact h1 h4
    · omega
  exact ⟨H.blk.more hg (hne _ H.xb), H.map.kept hg (hne _ H.xm), fun s hs => (H.own s hs).more hg (own_ne fun k hk e => (H.bs s hs k hk).2.2 (hr k e)), H.bm, fun s hs k hk => ⟨(H.bs s hs k hk).1, (H.bs s hs k hk).2.1, hy k (H.bs s hs k hk).2.2 ((H.own s hs).lt k hk).2⟩, H.apt, hy _ H.xb H.blk.lt, hy _ H.xm H.map.lt, fun k hk => (hY k hk).2⟩
theorem St.mono (H : St X w b m n now sv q h) {n' : Nat} (hn : n ≤ n') : St X w b m n' now sv q h := { H with map := H.map.mono hn }
theorem St.drewN (H : St X w b m n now sv q h) (k : Nat) : St X (w.drewN k) b m n now sv q h := ⟨H.blk, H.map, H.own, H.bm, H.bs, H.apt, H.xb, H.xm, H.xl⟩
theorem grown_none {B : Nat} (h : Below w.heap.size w w') : w.grownBy w' none := ⟨h.os, h.tape, h.output, h.size, fun k hk _ => h.block k hk⟩
theorem St.below (H : St X w b m n now sv q h) (hb : Below w.heap.size w w') : St X w' b m n now sv q h :=
  H.more (row := none) (grown_none (B := 0) hb) (fun k hk => by cases hk) (fun k hk => ⟨.inl hk, Nat.lt_of_lt_of_le (H.xl k hk) hb.size⟩)
/-- The wheel's own cells are written: a slot, the time. -/
theorem set_grown (w : World) (g k : Nat) (v : Value) : w.grownBy (w.setCell ⟨g, k, none⟩ v) (some g) :=
  ⟨rfl, rfl, rfl, by simp [World.setCell], fun j hj hne => by
    simp only [World.setCell, Array.getElem?_modify]
    rw [if_neg (fun e => hne (by rw [e]))]⟩
theorem St.time (H : St X w b m n now sv q h) (now' : Nat) : St X (w.setCell ⟨b, 400, none⟩ (.int .i64 (now' : Int))) b m n now' sv q h := by
  have hg := set_grown w b 400 (.int .i64 (now' : Int))
  refine ⟨by rw [← set_now]; exact H.blk.set 400 _, H.map.kept hg (fun e => H.bm (by injection e with e; exact e.symm)), fun s hs => (H.own s hs).more hg (own_ne fun k hk e => (H.bs s hs k hk).1 (by injection e with e; exact e.symm)), H.bm, H.bs, H.apt, H.xb, H.xm, fun k hk => by rw [show (w.setCell ⟨b, 400, none⟩ (.int .i64 (now' : Int))).heap.size = w.heap.size by simp [World.setCell]]; exact H.xl k hk⟩
/-- A slot's slice has turned in memory: v now reads l and will lie in slot s. -/
theorem St.slot (H : St X w b m n now sv q h) {s : Nat} (hs : s < 400) {v : Value} {l : List Int} (ho : OwnQ w 0 v l) (hb : ∀ k, v.ownBlock = some k → k ≠ b ∧ k ≠ m ∧ ¬ X k) (ha : ∀ t, t < 400 → t ≠ s → Apt (sv t) v) :
    St X (w.setCell ⟨b, s, none⟩ v) b m n now (updQ sv s v) (updQ q s l) h := by
  have hg := set_grown w b s v
  refine ⟨by rw [← set_slot _ _ _ hs]; exact H.blk.set s _, H.map.kept hg (fun e => H.bm (by injection e with e; exact e.symm)), fun t ht => ?_, H.bm, fun t ht => ?_, fun t u ht hu htu => ?_, H.xb, H.xm, fun k hk => by rw [show (w.setCell ⟨b, s, none⟩ v).heap.size = w.heap.size by simp [World.setCell]]; exact H.xl k hk⟩
  · by_cases e : t = s
    · subst e
      rw [updQ_same, updQ_same]
      exact ho.more hg (own_ne fun k hk e => (hb k hk).1 (by injection e with e; exact e.symm))
    · rw [updQ_other _ _ e, updQ_other _ _ e]
      exact (H.own t ht).more hg (own_ne fun k hk e => (H.bs t ht k hk).1 (by injection e with e; exact e.symm))
  · by_cases e : t = s
    · subst e; rw [updQ_same]; exact hb
    · rw [updQ_other _ _ e]; exact H.bs t ht
  · by_cases e : t = s
    · subst e
      rw [updQ_same, updQ_other _ _ (fun h => htu h.symm)]
      exact (ha u hu (fun h => htu h.symm)).symm
    · rw [updQ_other _ _ e]
      by_cases e2 : u = s
      · subst e2
        rw [updQ_same]; exact ha t ht e
      · rw [updQ_other _ _ e2]; exact H.apt t u ht hu htu
theorem gtrans {w w1 w2 : World} {r : Option Nat} (h : w.grownBy w1 r) (h' : w1.grownBy w2 r) : w.grownBy w2 r :=
  ⟨h'.os.trans h.os, h'.tape.trans h.tape, h'.output.trans h.output, Nat.le_trans h.size h'.size, fun k hk hne => (h'.block k (Nat.lt_of_lt_of_le hk h.size) hne).trans (h.block k hk hne)⟩
/-- All but the slot s, while its slice turns. -/
theorem St.turn (H : St X w b m n now sv q h) {s : Nat} (hs : s < 400) {v : Value} {l : List Int} (hg : w.grownBy w' (sv s).ownBlock) {N : Nat} (hN : w.heap.size ≤ N) (hat : v.ownBlock = (sv s).ownBlock ∨ v.ownBlock = some N) (ho : OwnQ w' 0 v l) :
    St X (w'.setCell ⟨b, s, none⟩ v) b m n now (updQ sv s v) (updQ q s l) h := by
  have hrow : ∀ k, X k ∨ k = b ∨ k = m → some k ≠ (sv s).ownBlock := fun k hk e => by
    have := H.bs s hs k e.symm
    rcases hk with h1 | h1 | h1
    · exact this.2.2 h1
    · exact this.1 h1
    · exact this.2.1 h1
  have hv : ∀ k, v.ownBlock = some k → (sv s).ownBlock = some k ∨ k = N := fun k hk => by
    rcases hat with e | e
    · exact .inl (by rw [← e]; exact hk)
    · rw [e] at hk; injection hk with hk; exact .inr hk.symm
  have hbl := H.blk.more hg (hrow b (.inr (.inl rfl)))
  have hmp := H.map.kept hg (hrow m (.inr (.inr rfl)))
  have hb : ∀ k, v.ownBlock = some k → k ≠ b ∧ k ≠ m ∧ ¬ X k := fun k hk => by
    rcases hv k hk with h1 | h1
    · exact H.bs s hs k h1
    · subst h1
      exact ⟨fun e => by have := H.blk.lt; omega, fun e => by have := H.map.lt; omega, fun e => by have := H.xl _ e; omega⟩
  have ha : ∀ t, t < 400 → t ≠ s → Apt (sv t) v := fun t ht hts => (H.apt t s ht hs hts).grow (fun k hk => ((H.own t ht).lt k hk).2) hN hat
  have hg2 := set_grown w' b s v
  refine ⟨by rw [← set_slot _ _ _ hs]; exact hbl.set s _, hmp.kept hg2 (fun e => H.bm (by injection e with e; exact e.symm)), fun t ht => ?_, H.bm, fun t ht => ?_, fun t u ht hu htu => ?_, H.xb, H.xm, fun k hk => by rw [show (w'.setCell ⟨b, s, none⟩ v).heap.size = w'.heap.size by simp [World.setCell]]; exact Nat.lt_of_lt_of_le (H.xl k hk) hg.size⟩
  · by_cases e : t = s
    · subst e
      rw [updQ_same, updQ_same]
      exact ho.more hg2 (own_ne fun k hk e => (hb k hk).1 (by injection e with e; exact e.symm))
    · rw [updQ_other _ _ e, updQ_other _ _ e]
      exact ((H.own t ht).more hg (H.apt t s ht hs e).ne).more hg2 (own_ne fun k hk e => (H.bs t ht k hk).1 (by injection e with e; exact e.symm))
  · by_cases e : t = s
    · subst e; rw [updQ_same]; exact hb
    · rw [updQ_other _ _ e]; exact H.bs t ht
  · by_cases e : t = s
    · subst e
      rw [updQ_same, updQ_other _ _ (fun h => htu h.symm)]
      exact (ha u hu (fun h => htu h.symm)).symm
    · rw [updQ_other _ _ e]
      by_cases e2 : u = s
      · subst e2
        rw [updQ_same]; exact ha t ht e
      · rw [updQ_other _ _ e2]; exact H.apt t u ht hu htu
/-- A slot's slice is taken out of the wheel. -/
theorem St.take (H : St X w b m n now sv q h) {s : Nat} (hs : s < 400) : St (fun k => X k ∨ (sv s).ownBlock = some k) (w.setCell ⟨b, s, none⟩ (.slice none 0 0)) b m n now (updQ sv s (.slice none 0 0)) (updQ q s []) h := by
  have H1 := H.slot hs (OwnQ.nil w 0) (fun k hk => by simp [Value.ownBlock] at hk) (fun t ht _ => Apt.nil _)
  refine ⟨H1.blk, H1.map, H1.own, H1.bm, fun t ht k hk => ⟨(H1.bs t ht k hk).1, (H1.bs t ht k hk).2.1, ?_⟩, H1.apt, ?_, ?_, fun k hk => ?_⟩
  · rintro (h1 | h1)
    · exact (H1.bs t ht k hk).2.2 h1
    · by_cases e : t = s
      · subst e; rw [updQ_same] at hk; simp [Value.ownBlock] at hk
      · rw [updQ_other _ _ e] at hk
        exact H.apt t s ht hs e k hk h1
  · rintro (h1 | h1)
    · exact H.xb h1
    · exact (H.bs s hs _ h1).1 rfl
  · rintro (h1 | h1)
    · exact H.xm h1
    · exact (H.bs s hs _ h1).2.1 rfl
  · rcases hk with h1 | h1
    · exact H1.xl k h1
    · have := ((H.own s hs).lt k h1).2
      simpa [World.setCell] using this
/-- The map has turned. -/
theorem St.put (H : St X w b m n now sv q h) {n' : Nat} {h' : Int → Option Int} (hm : Mz w' m n' h') (hg : w.grownBy w' (some m)) : St X w' b m n' now sv q h' :=
  ⟨H.blk.more hg (fun e => H.bm (by injection e with e)), hm, fun s hs => (H.own s hs).more hg (own_ne fun k hk e => (H.bs s hs k hk).2.1 (by injection e with e; exact e.symm)), H.bm, H.bs, H.apt, H.xb, H.xm, fun k hk => Nat.lt_of_lt_of_le (H.xl k hk) hg.size⟩
theorem St.keep_b (H : St X w b m n now sv q h) {w0 : World} (hk : Keep X w0 w) (k : Nat) (v : Value) : Keep X w0 (w.setCell ⟨b, k, none⟩ v) :=
  hk.grown (set_grown w b k v) (fun j hj e => H.xb (by injection e with e; exact e ▸ hj)) H.xl
theorem St.keep_m (H : St X w b m n now sv q h) {w0 : World} (hk : Keep X w0 w) (hg : w.grownBy w' (some m)) : Keep X w0 w' :=
  hk.grown hg (fun j hj e => H.xm (by injection e with e; exact e ▸ hj)) H.xl
theorem St.keep_s (H : St X w b m n now sv q h) {w0 : World} (hk : Keep X w0 w) {s : Nat} (hs : s < 400) (hg : w.grownBy w' (sv s).ownBlock) : Keep X w0 w' :=
  hk.grown hg (fun j hj e => (H.bs s hs j e.symm).2.2 hj) H.xl

/-- Block b is a wheel with these ticks left. -/
def Wh (X : Nat → Prop) (w : World) (b n : Nat) (left : Int → Nat) : Prop := ∃ m now sv q h, St X w b m n now sv q h ∧ Inv left now q h
variable {left : Int → Nat}
theorem Wh.more (H : Wh X w b n left) {row : Option Nat} (hg : w.grownBy w' row) (hr : ∀ k, row = some k → X k) (hY : ∀ k, Y k → (X k ∨ w.heap.size ≤ k) ∧ k < w'.heap.size) : Wh Y w' b n left := by
  obtain ⟨m, now, sv, q, h, h1, h2⟩ := H
  exact ⟨m, now, sv, q, h, h1.more hg hr hY, h2⟩
theorem Wh.below (H : Wh X w b n left) (hb : Below w.heap.size w w') : Wh X w' b n left := by
  obtain ⟨m, now, sv, q, h, h1, h2⟩ := H
  exact ⟨m, now, sv, q, h, h1.below hb, h2⟩
theorem Wh.drewN (H : Wh X w b n left) (k : Nat) : Wh X (w.drewN k) b n left := by
  obtain ⟨m, now, sv, q, h, h1, h2⟩ := H
  exact ⟨m, now, sv, q, h, h1.drewN k, h2⟩
theorem Wh.mono (H : Wh X w b n left) {n' : Nat} (hn : n ≤ n') : Wh X w b n' left := by
  obtain ⟨m, now, sv, q, h, h1, h2⟩ := H
  exact ⟨m, now, sv, q, h, h1.mono hn, h2⟩
theorem Wh.rng (H : Wh X w b n left) (i : Int) (hi : left i ≠ 0) : 0 ≤ i ∧ i < 20 ∧ left i ≤ 400 := by
  obtain ⟨m, now, sv, q, h, h1, h2⟩ := H
  exact h2.rng i hi
theorem Wh.xl (H : Wh X w b n left) (k : Nat) (hk : X k) : k < w.heap.size := by
  obtain ⟨m, now, sv, q, h, h1, h2⟩ := H
  exact h1.xl k hk
end Go.Proofs.YtjknojfdlpgicaaDoor.Wheel
