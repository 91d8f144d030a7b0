/- Package nat: what a table holds, and how it lies in memory. X: blocks that are none of the table's. No statement is proved here. -/
import Derived.Test.YtlojehakifagbaaNatMaps
import Derived.Test.YtlojehakifagbaaKeep
import Derived.Test.YtlojehakifagbaaBlk
namespace Go.Proofs.Ytlojehakifagbaa.Nat_
open Go.ChangeShapes Go.WideShapes Go.ChangeAt Go.RowKit Go.Proofs.Ytlojehakifagbaa.Kit Go.Proofs.Ytlojehakifagbaa.App Go.Proofs.Ytlojehakifagbaa.Cells Go.Proofs.Ytlojehakifagbaa.Err Go.Proofs.Ytlojehakifagbaa.MapG
set_option linter.unusedVariables false
set_option maxRecDepth 20000

/-- An address or a port. -/
def num (n : Int) : Prop := 0 ≤ n ∧ n ≤ 65535
instance (n : Int) : Decidable (num n) := by unfold num; infer_instance
def good (x : Plc) : Prop := num x.adr ∧ num x.prt
instance (x : Plc) : Decidable (good x) := by unfold good; infer_instance
theorem wf_in {n : Int} (h : -9223372036854775808 ≤ n ∧ n ≤ 9223372036854775807) : (Lit.int .i64 n).wf = true := by simp [Lit.wf, IntKind.min, IntKind.max, IntKind.signed, IntKind.bits]; omega
theorem good.fits {x : Plc} (h : good x) : Fits x := ⟨wf_in (by have := h.1.1; have := h.1.2; omega), wf_in (by have := h.2.1; have := h.2.2; omega)⟩
/-- Places by ports: each port is one of the table's, each place one that may be, no place has two ports. -/
structure Tb (low many : Nat) (h : Int → Option Plc) : Prop where
  m1 : 1 ≤ many
  m30 : many ≤ 30
  lo : low + many ≤ 65536
  rng : ∀ q x, h q = some x → (low : Int) ≤ q ∧ q < low + many
  fit : ∀ q x, h q = some x → good x
  inj : ∀ q r x, h q = some x → h r = some x → q = r
def Inv (g : Plc → Option Int) (h : Int → Option Plc) : Prop := ∀ x q, g x = some q ↔ h q = some x
variable {low many : Nat} {h h' h2 : Int → Option Plc} {g : Plc → Option Int} {x : Plc} {q : Int}
theorem Tb.empty (m1 : 1 ≤ many) (m30 : many ≤ 30) (lo : low + many ≤ 65536) : Tb low many (fun _ => none) :=
  ⟨m1, m30, lo, fun _ _ e => (by cases e), fun _ _ e => (by cases e), fun _ _ _ e => (by cases e)⟩
theorem Tb.put (H : Tb low many h) (hq : (low : Int) ≤ q ∧ q < low + many) (hx : good x) (hn : ∀ r, h r ≠ some x) : Tb low many (upd h q (some x)) := by
  refine ⟨H.m1, H.m30, H.lo, fun r y e => ?_, fun r y e => ?_, fun r s y e1 e2 => ?_⟩
  · by_cases hr : r = q
    · rw [hr]; exact hq
    · rw [upd_other _ _ hr] at e; exact H.rng r y e
  · by_cases hr : r = q
    · rw [hr, upd_same] at e; injection e with e; rw [← e]; exact hx
    · rw [upd_other _ _ hr] at e; exact H.fit r y e
  · by_cases hr : r = q
    · by_cases hs : s = q
      · rw [hr, hs]
      · rw [hr, upd_same] at e1; rw [upd_other _ _ hs] at e2; injection e1 with e1
        exact absurd (by rw [e2, e1]) (hn s)
    · by_cases hs : s = q
      · rw [hs, upd_same] at e2; rw [upd_other _ _ hr] at e1; injection e2 with e2
        exact absurd (by rw [e1, e2]) (hn r)
      · rw [upd_other _ _ hr] at e1; rw [upd_other _ _ hs] at e2; exact H.inj r s y e1 e2
theorem Tb.del (H : Tb low many h) (q : Int) : Tb low many (upd h q none) := by
  have key : ∀ r y, upd h q none r = some y → h r = some y := fun r y e => by
    by_cases hr : r = q
    · rw [hr, upd_same] at e; cases e
    · rwa [upd_other _ _ hr] at e
  exact ⟨H.m1, H.m30, H.lo, fun r y e => H.rng r y (key r y e), fun r y e => H.fit r y (key r y e), fun r s y e1 e2 => H.inj r s y (key r y e1) (key s y e2)⟩
theorem Inv.put (H : Inv g h) (hn : ∀ r, h r ≠ some x) (hq : h q = none) : Inv (upd g x (some q)) (upd h q (some x)) := by
  intro y r
  by_cases hy : y = x
  · subst hy
    rw [upd_same]
    by_cases hr : r = q
    · subst hr; rw [upd_same]; simp
    · rw [upd_other _ _ hr]
      exact ⟨fun e => absurd (by injection e with e; exact e.symm) hr, fun e => absurd e (hn r)⟩
  · rw [upd_other _ _ hy]
    by_cases hr : r = q
    · subst hr; rw [upd_same, H y r, hq]
      exact ⟨fun e => (by cases e), fun e => absurd (by injection e with e; exact e.symm) hy⟩
    · rw [upd_other _ _ hr]; exact H y r
theorem Inv.del (H : Inv g h) (hI : ∀ q r x, h q = some x → h r = some x → q = r) (hq : h q = some x) : Inv (upd g x none) (upd h q none) := by
  intro y r
  by_cases hy : y = x
  · subst hy
    rw [upd_same]
    by_cases hr : r = q
    · subst hr; rw [upd_same]; simp
    · rw [upd_other _ _ hr]
      exact ⟨fun e => (by cases e), fun e => absurd (hI r q y e hq) hr⟩
  · rw [upd_other _ _ hy]
    by_cases hr : r = q
    · subst hr; rw [upd_same, H y r, hq]
      exact ⟨fun e => absurd (by injection e with e; exact e.symm) hy, fun e => (by cases e)⟩
    · rw [upd_other _ _ hr]; exact H y r
theorem Inv.none (H : Inv g h) (hn : ∀ r, h r ≠ some x) : g x = none := by
  cases e : g x with
  | none => rfl
  | some q => exact absurd ((H x q).1 e) (hn q)
/-- Asked for a place's port: the port, what is wrong, the table behind it. -/
def OutR (low many : Nat) (h : Int → Option Plc) (x : Plc) (port c : Int) (h' : Int → Option Plc) : Prop :=
  (¬ good x ∧ port = 0 ∧ c = 1 ∧ h' = h) ∨ (good x ∧ h port = some x ∧ c = 0 ∧ h' = h) ∨
  (good x ∧ (∀ r, h r ≠ some x) ∧ ((low : Int) ≤ port ∧ port < low + many) ∧ h port = none ∧ (∀ r : Int, low ≤ r → r < port → h r ≠ none) ∧ c = 0 ∧ h' = upd h port (some x)) ∨
  (good x ∧ (∀ r, h r ≠ some x) ∧ (∀ r : Int, low ≤ r → r < low + many → h r ≠ none) ∧ port = 0 ∧ c = 4 ∧ h' = h)
theorem OutR.uniq {p1 c1 p2 c2 : Int} (H : Tb low many h) (A : OutR low many h x p1 c1 h') (B : OutR low many h x p2 c2 h2) : p1 = p2 ∧ c1 = c2 ∧ h' = h2 := by
  rcases A with ⟨a1, a2, a3, a4⟩ | ⟨a1, a2, a3, a4⟩ | ⟨a1, a2, a3, a4, a5, a6, a7⟩ | ⟨a1, a2, a3, a4, a5, a6⟩ <;>
    rcases B with ⟨b1, b2, b3, b4⟩ | ⟨b1, b2, b3, b4⟩ | ⟨b1, b2, b3, b4, b5, b6, b7⟩ | ⟨b1, b2, b3, b4, b5, b6⟩
  · exact ⟨a2.trans b2.symm, a3.trans b3.symm, a4.trans b4.symm⟩
  · exact absurd b1 a1
  · exact absurd b1 a1
  · exact absurd b1 a1
  · exact absurd a1 b1
  · exact ⟨H.inj _ _ x a2 b2, a3.trans b3.symm, a4.trans b4.symm⟩
  · exact absurd a2 (b2 _)
  · exact absurd a2 (b2 _)
  · exact absurd a1 b1
  · exact absurd b2 (a2 _)
  · have e : p1 = p2 := by
      rcases Int.lt_trichotomy p1 p2 with h1 | h1 | h1
      · exact absurd a4 (b5 p1 a3.1 h1)
      · exact h1
      · exact absurd b4 (a5 p2 b3.1 h1)
    subst e
    exact ⟨rfl, a6.trans b6.symm, a7.trans b7.symm⟩
  · exact absurd a4 (b3 p1 a3.1 a3.2)
  · exact absurd a1 b1
  · exact absurd b2 (a2 _)
  · exact absurd b4 (a3 p2 b3.1 b3.2)
  · exact ⟨a4.trans b4.symm, a5.trans b5.symm, a6.trans b6.symm⟩
theorem OutR.tb {p c : Int} (H : Tb low many h) (A : OutR low many h x p c h') : Tb low many h' := by
  rcases A with ⟨a1, a2, a3, a4⟩ | ⟨a1, a2, a3, a4⟩ | ⟨a1, a2, a3, a4, a5, a6, a7⟩ | ⟨a1, a2, a3, a4, a5, a6⟩
  · rw [a4]; exact H
  · rw [a4]; exact H
  · rw [a7]; exact H.put a3 a1 a2
  · rw [a6]; exact H
/-- The ports that are lent, in order. -/
def lentL (low many : Nat) (h : Int → Option Plc) : List Int := ((List.range many).map fun i => ((low + i : Nat) : Int)).filter fun q => (h q).isSome
theorem lentL_mem (H : Tb low many h) (q : Int) : q ∈ lentL low many h ↔ (h q).isSome = true := by
  unfold lentL
  rw [List.mem_filter, List.mem_map]
  refine ⟨fun e => e.2, fun e => ⟨?_, e⟩⟩
  obtain ⟨x, hx⟩ := Option.isSome_iff_exists.1 e
  have := H.rng q x hx
  exact ⟨(q - low).toNat, List.mem_range.2 (by omega), by omega⟩
theorem lentL_rise (low many : Nat) (h : Int → Option Plc) : (lentL low many h).Pairwise (fun a b => a < b) := by
  unfold lentL
  refine List.Pairwise.filter _ (List.pairwise_map.2 ?_)
  exact (List.pairwise_lt_range (n := many)).imp fun {a b} hab => by omega
theorem lentL_len (low many : Nat) (h : Int → Option Plc) : (lentL low many h).length ≤ many := by
  unfold lentL
  refine Nat.le_trans (List.length_filter_le _ _) ?_
  simp
/-- A list without repetition of the ports that are lent, sorted. -/
theorem sorted_lentL (H : Tb low many h) {ss : List Int} (hn : ss.Nodup) (hm : ∀ q, q ∈ ss ↔ (h q).isSome = true) : ss.mergeSort (fun a b => decide (a ≤ b)) = lentL low many h := by
  have hr := lentL_rise low many h
  have hnd : (lentL low many h).Nodup := hr.imp fun {a b} hab => by omega
  have hp : ss.Perm (lentL low many h) := (List.perm_ext_iff_of_nodup hn hnd).2 fun q => by rw [hm q, lentL_mem H q]
  rw [mergeSort_of_perm_i hp]
  exact List.mergeSort_of_pairwise (hr.imp fun {a b} hab => by simp; omega)

/-- Block b is a table. -/
structure St (X : Nat → Prop) (w : World) (b bp bq n low many : Nat) (g : Plc → Option Int) (h : Int → Option Plc) : Prop where
  blk : Blk 54 w b [.int .i64 (low : Int), .int .i64 (many : Int), .map (some bp), .map (some bq)]
  mp : Mg kP w bp n g
  mq : Mg kQ w bq n h
  inv : Inv g h
  tb : Tb low many h
  np : b ≠ bp
  nq : b ≠ bq
  pq : bp ≠ bq
  xb : ¬ X b
  xp : ¬ X bp
  xq : ¬ X bq
  xl : ∀ k, X k → k < w.heap.size
def Tab (X : Nat → Prop) (w : World) (b n low many : Nat) (h : Int → Option Plc) : Prop := ∃ bp bq g, St X w b bp bq n low many g h
variable {X Y : Nat → Prop} {w w' : World} {b bp bq n : Nat}
/-- Memory moved elsewhere; other blocks are not the table's now. -/
theorem St.more (H : St X w b bp bq n low many g h) {row : Option Nat} (hg : w.grownBy w' row) (hr : ∀ k, row = some k → X k) (hY : ∀ k, Y k → (X k ∨ w.heap.size ≤ k) ∧ k < w'.heap.size) : St Y w' b bp bq n low many g h := by
  have hne : ∀ k, ¬ X k → some k ≠ row := fun k hk e => hk (hr k e.symm)
  have hy : ∀ k, ¬ X k → k < w.heap.size → ¬ Y k := fun k h1 h2 h3 => by
    rcases (hY k h3).1 with h4 | h4
    · exact h1 h4
    · omega
  exact ⟨H.blk.more hg (hne _ H.xb), H.mp.kept hg (hne _ H.xp), H.mq.kept hg (hne _ H.xq), H.inv, H.tb, H.np, H.nq, H.pq, hy _ H.xb H.blk.lt, hy _ H.xp H.mp.lt, hy _ H.xq H.mq.lt, fun k hk => (hY k hk).2⟩
theorem St.below (H : St X w b bp bq n low many g h) (hb : Below w.heap.size w w') : St X w' b bp bq n low many g h :=
  H.more (row := none) ⟨hb.os, hb.tape, hb.output, hb.size, fun k hk _ => hb.block k hk⟩ (fun k hk => (by cases hk)) (fun k hk => ⟨.inl hk, Nat.lt_of_lt_of_le (H.xl k hk) hb.size⟩)
theorem St.drewN (H : St X w b bp bq n low many g h) (k : Nat) : St X (w.drewN k) b bp bq n low many g h := ⟨H.blk, H.mp, H.mq, H.inv, H.tb, H.np, H.nq, H.pq, H.xb, H.xp, H.xq, H.xl⟩
theorem St.mono (H : St X w b bp bq n low many g h) {n' : Nat} (hn : n ≤ n') : St X w b bp bq n' low many g h := { H with mp := H.mp.mono hn, mq := H.mq.mono hn }
theorem St.keep (H : St X w b bp bq n low many g h) {row : Option Nat} (hg : w.grownBy w' row) (hr : ∀ k, row = some k → ¬ X k) : Keep X w w' := Keep.grown hg (fun k hk e => hr k e.symm hk) H.xl
theorem Tab.more (H : Tab X w b n low many h) {row : Option Nat} (hg : w.grownBy w' row) (hr : ∀ k, row = some k → X k) (hY : ∀ k, Y k → (X k ∨ w.heap.size ≤ k) ∧ k < w'.heap.size) : Tab Y w' b n low many h := by
  obtain ⟨bp, bq, g, S⟩ := H
  exact ⟨bp, bq, g, S.more hg hr hY⟩
theorem Tab.below (H : Tab X w b n low many h) (hb : Below w.heap.size w w') : Tab X w' b n low many h := by
  obtain ⟨bp, bq, g, S⟩ := H
  exact ⟨bp, bq, g, S.below hb⟩
theorem Tab.late (H : Tab X w b n low many h) (hb : Below w.heap.size w w') (hY : ∀ k, Y k → (X k ∨ w.heap.size ≤ k) ∧ k < w'.heap.size) : Tab Y w' b n low many h := by
  obtain ⟨bp, bq, g, S⟩ := H
  exact ⟨bp, bq, g, S.more (row := none) ⟨hb.os, hb.tape, hb.output, hb.size, fun k hk _ => hb.block k hk⟩ (fun k hk => (by cases hk)) hY⟩
theorem Tab.mono (H : Tab X w b n low many h) {n' : Nat} (hn : n ≤ n') : Tab X w b n' low many h := by
  obtain ⟨bp, bq, g, S⟩ := H
  exact ⟨bp, bq, g, S.mono hn⟩
theorem Tab.tb (H : Tab X w b n low many h) : Tb low many h := by
  obtain ⟨bp, bq, g, S⟩ := H
  exact S.tb
theorem Tab.xl (H : Tab X w b n low many h) : ∀ k, X k → k < w.heap.size := by
  obtain ⟨bp, bq, g, S⟩ := H
  exact S.xl
end Go.Proofs.Ytlojehakifagbaa.Nat_
