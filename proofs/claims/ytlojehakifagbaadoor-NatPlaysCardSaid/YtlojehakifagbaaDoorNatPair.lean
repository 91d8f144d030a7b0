/- Package nat, NatPlays: the program's table beside the document's. No statement is proved here. -/
import Derived.Test.YtlojehakifagbaaDoorNatOut
import Derived.Test.YtlojehakifagbaaDoorNatRef3
namespace Go.Proofs.YtlojehakifagbaaDoor.Nat_
open Go.ChangeShapes Go.WideShapes Go.ChangeAt Go.RowKit Go.Proofs.YtlojehakifagbaaDoor.Kit Go.Proofs.YtlojehakifagbaaDoor.App Go.Proofs.YtlojehakifagbaaDoor.Cells Go.Proofs.YtlojehakifagbaaDoor.Err Go.Proofs.YtlojehakifagbaaDoor.MapG
set_option linter.unusedVariables false
set_option maxRecDepth 20000

/-- The blocks of before, that of the document's table, those of its lists. -/
def XQ (w0 : World) (xb : Nat) (pp pl : Option Addr) (k : Nat) : Prop := k < w0.heap.size ∨ k = xb ∨ (∃ a, pp = some a ∧ a.block = k) ∨ ∃ a, pl = some a ∧ a.block = k
/-- The program's table holds h, the document's hd. -/
structure PN (w0 w : World) (b xb : Nat) (pp pl : Option Addr) (n cp cl k low many : Nat) (h hd : Int → Option Plc) (L : List En) : Prop where
  tab : Tab (XQ w0 xb pp pl) w b k low many h
  x : Blk 45 w xb [.int .i64 (low : Int), .int .i64 (many : Int), .slice pp n cp, .slice pl n cl]
  rl : RL hd L
  tb : Tb low many hd
  len : n = L.length
  p : Ints w pp cp (L.map Prod.fst)
  l : CI lay w pl cl (L.map Prod.snd)
  bel : Below w0.heap.size w0 w
  lo : w0.heap.size ≤ xb
  np : ∀ a, pp = some a → a.block ≠ xb
  nl : ∀ a, pl = some a → a.block ≠ xb
variable {w0 w w' : World} {b xb n n' k k' low many : Nat} {pp pl pp' pl' : Option Addr} {cp cl cp' cl' : Nat} {h h' hd hd' : Int → Option Plc} {L L' : List En}
theorem PN.below (H : PN w0 w b xb pp pl n cp cl k low many h hd L) (hb : Below w.heap.size w w') : PN w0 w' b xb pp pl n cp cl k low many h hd L :=
  ⟨H.tab.below hb, H.x.below hb, H.rl, H.tb, H.len, H.p.below hb, H.l.below hb, bcall H.bel hb, H.lo, H.np, H.nl⟩
/-- The program's table has turned. -/
theorem PN.turn (H : PN w0 w b xb pp pl n cp cl k low many h hd L) (ht : Tab (XQ w0 xb pp pl) w' b k' low many h') (hk : Keep (XQ w0 xb pp pl) w w') : PN w0 w' b xb pp pl n cp cl k' low many h' hd L :=
  ⟨ht, (hk.block xb (.inr (.inl rfl))).trans H.x, H.rl, H.tb, H.len, hk.ints H.p (fun a e => .inr (.inr (.inl ⟨a, e, rfl⟩))), H.l.keep hk.size (fun a e _ => hk.block _ (.inr (.inr (.inr ⟨a, e, rfl⟩)))), H.bel.trans (hk.below (fun k h => .inl h)), H.lo, H.np, H.nl⟩
theorem ints_setc {w : World} {p : Option Addr} {cap : Nat} {l : List Int} (h : Ints w p cap l) (g k : Nat) (v : Value) (hp : ∀ x, p = some x → x.block ≠ g) : Ints (w.setCell ⟨g, k, none⟩ v) p cap l :=
  h.keep (by simp [World.setCell]) (fun a e hl => (set_grown w g k v).block _ hl (fun e2 => hp a e (Option.some.inj e2)))
theorem ci_setc {w : World} {p : Option Addr} {cap : Nat} {l : List Plc} (h : CI lay w p cap l) (g k : Nat) (v : Value) (hp : ∀ x, p = some x → x.block ≠ g) : CI lay (w.setCell ⟨g, k, none⟩ v) p cap l :=
  h.keep (by simp [World.setCell]) (fun a e hl => (set_grown w g k v).block _ hl (fun e2 => hp a e (Option.some.inj e2)))
theorem PN.set1 (H : Tab (XQ w0 xb pp pl) w b k low many h) (j : Nat) (v : Value) : Tab (XQ w0 xb pp pl) (w.setCell ⟨xb, j, none⟩ v) b k low many h := by
  have hg := set_grown w xb j v
  exact H.more hg (fun k e => by injection e with e; exact .inr (.inl e.symm)) (fun k hk => ⟨.inl hk, Nat.lt_of_lt_of_le (H.xl k hk) hg.size⟩)
/-- A new table of the document's is stored. -/
theorem PN.store (H : PN w0 w b xb pp pl n cp cl k low many h hd L) (hb : Below w.heap.size w w') (D : Dt w w' pp pl pp' n' cp' pl' cl' L') (hR : RL hd' L') (hT : Tb low many hd') :
    PN w0 ((((w'.setCell ⟨xb, 0, none⟩ (.int .i64 (low : Int))).setCell ⟨xb, 1, none⟩ (.int .i64 (many : Int))).setCell ⟨xb, 2, none⟩ (.slice pp' n' cp')).setCell ⟨xb, 3, none⟩ (.slice pl' n' cl')) b xb pp' pl' n' cp' cl' k low many h hd' L' := by
  have hlt := H.x.lt
  have hxl := H.tab.xl
  have hs : Tab (XQ w0 xb pp' pl') w' b k low many h := H.tab.late hb (fun k hk => by
    rcases hk with h | rfl | ⟨a, e, rfl⟩ | ⟨a, e, rfl⟩
    · exact ⟨.inl (.inl h), Nat.lt_of_lt_of_le h (Nat.le_trans H.bel.size hb.size)⟩
    · exact ⟨.inl (.inr (.inl rfl)), Nat.lt_of_lt_of_le hlt hb.size⟩
    · rcases D.bp a e with h | h
      · have hx : XQ w0 xb pp pl a.block := .inr (.inr (.inl ⟨a, h, rfl⟩))
        exact ⟨.inl hx, Nat.lt_of_lt_of_le (hxl _ hx) hb.size⟩
      · exact ⟨.inr h.1, h.2⟩
    · rcases D.bl a e with h | h
      · have hx : XQ w0 xb pp pl a.block := .inr (.inr (.inr ⟨a, h, rfl⟩))
        exact ⟨.inl hx, Nat.lt_of_lt_of_le (hxl _ hx) hb.size⟩
      · exact ⟨.inr h.1, h.2⟩)
  have hp : ∀ a, pp' = some a → a.block ≠ xb := fun a e => by
    rcases D.bp a e with h | h
    · exact H.np a h
    · have := h.1; omega
  have hl : ∀ a, pl' = some a → a.block ≠ xb := fun a e => by
    rcases D.bl a e with h | h
    · exact H.nl a h
    · have := h.1; omega
  refine ⟨PN.set1 (PN.set1 (PN.set1 (PN.set1 hs 0 _) 1 _) 2 _) 3 _, ((((H.x.below hb).set 0 (.int .i64 (low : Int))).set 1 (.int .i64 (many : Int))).set 2 (.slice pp' n' cp')).set 3 (.slice pl' n' cl'), hR, hT, D.len, ints_setc (ints_setc (ints_setc (ints_setc D.p xb 0 _ hp) xb 1 _ hp) xb 2 _ hp) xb 3 _ hp, ci_setc (ci_setc (ci_setc (ci_setc D.l xb 0 _ hl) xb 1 _ hl) xb 2 _ hl) xb 3 _ hl, below_set (below_set (below_set (below_set (bcall H.bel hb) xb 0 _ H.lo) xb 1 _ H.lo) xb 2 _ H.lo) xb 3 _ H.lo, H.lo, hp, hl⟩
theorem Dt.below {w1 : World} (D : Dt w w' pp pl pp' n' cp' pl' cl' L') (hb : Below w'.heap.size w' w1) : Dt w w1 pp pl pp' n' cp' pl' cl' L' :=
  ⟨D.len, D.p.below hb, D.l.below hb, fun a e => (D.bp a e).imp id (fun h => ⟨h.1, Nat.lt_of_lt_of_le h.2 hb.size⟩), fun a e => (D.bl a e).imp id (fun h => ⟨h.1, Nat.lt_of_lt_of_le h.2 hb.size⟩)⟩
theorem Dt.mono {w1 : World} (D : Dt w1 w' pp pl pp' n' cp' pl' cl' L') (hb : w.heap.size ≤ w1.heap.size) : Dt w w' pp pl pp' n' cp' pl' cl' L' :=
  ⟨D.len, D.p, D.l, fun a e => (D.bp a e).imp id (fun h => ⟨Nat.le_trans hb h.1, h.2⟩), fun a e => (D.bl a e).imp id (fun h => ⟨Nat.le_trans hb h.1, h.2⟩)⟩
/-- The lists stay where a cell of another block is written. -/
theorem Dt.set (D : Dt w w' pp pl pp' n' cp' pl' cl' L') (g j : Nat) (v : Value) (hp : ∀ a, pp' = some a → a.block ≠ g) (hl : ∀ a, pl' = some a → a.block ≠ g) : Dt w (w'.setCell ⟨g, j, none⟩ v) pp pl pp' n' cp' pl' cl' L' :=
  have hs : (w'.setCell ⟨g, j, none⟩ v).heap.size = w'.heap.size := by simp [World.setCell]
  ⟨D.len, ints_setc D.p g j v hp, ci_setc D.l g j v hl, fun a e => by rw [hs]; exact D.bp a e, fun a e => by rw [hs]; exact D.bl a e⟩
theorem PN.start {w1 : World} (hs : Tab (fun k => k < w0.heap.size) w1 b k low many (fun _ => none)) (hb : Below w0.heap.size w0 w1) : PN w0 (w1.alloc (.cells #[.int .i64 (low : Int), .int .i64 (many : Int), .slice none 0 0, .slice none 0 0] 45)) b w1.heap.size none none 0 0 0 k low many (fun _ => none) (fun _ => none) [] :=
  ⟨hs.late (balloc (brefl w1) _) (fun k hk => by
    rcases hk with h | rfl | ⟨a, e, _⟩ | ⟨a, e, _⟩
    · exact ⟨.inl h, by have := hb.size; simp; omega⟩
    · exact ⟨.inr (Nat.le_refl _), by simp⟩
    · cases e
    · cases e), Blk.new w1 _ _, RL.nil, hs.tb, rfl, Ints.nil _, CI.nil _ _, bcall hb (balloc (brefl w1) _), hb.size, fun a e => (by cases e), fun a e => (by cases e)⟩
theorem PN.mono (H : PN w0 w b xb pp pl n cp cl k low many h hd L) (hk : k ≤ k') : PN w0 w b xb pp pl n cp cl k' low many h hd L := { H with tab := H.tab.mono hk }
theorem Box.setc {w : World} {g : Nat} {x : Plc} (H : Box w g x) (j : Nat) (v : Value) (hne : g ≠ xb) : Box (w.setCell ⟨xb, j, none⟩ v) g x := H.more (set_grown w xb j v) hne
/-- The four cells of the document's table are stored. -/
def put4 (w : World) (xb low many : Nat) (pp : Option Addr) (n cp : Nat) (pl : Option Addr) (cl : Nat) : World :=
  (((w.setCell ⟨xb, 0, none⟩ (.int .i64 (low : Int))).setCell ⟨xb, 1, none⟩ (.int .i64 (many : Int))).setCell ⟨xb, 2, none⟩ (.slice pp n cp)).setCell ⟨xb, 3, none⟩ (.slice pl n cl)
theorem Box.put4 {w : World} {g : Nat} {x : Plc} (H : Box w g x) (hne : g ≠ xb) : Box (put4 w xb low many pp n cp pl cl) g x := (((H.setc 0 _ hne).setc 1 _ hne).setc 2 _ hne).setc 3 _ hne
end Go.Proofs.YtlojehakifagbaaDoor.Nat_
