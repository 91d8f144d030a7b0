/- Package learn, LearnPlays: the program's switch beside the document's pair of lists. No statement is proved here. -/
import Derived.Test.YtbgbmchpikdgoaaDoorLearnOps
import Derived.Test.YtbgbmchpikdgoaaDoorLearnRef2
namespace Go.Proofs.YtbgbmchpikdgoaaDoor.Learn
open Go.ChangeShapes Go.WideShapes Go.ChangeAt Go.RowKit Go.Proofs.YtbgbmchpikdgoaaDoor.Kit Go.Proofs.YtbgbmchpikdgoaaDoor.App Go.Proofs.YtbgbmchpikdgoaaDoor.Err
set_option linter.unusedVariables false
set_option maxRecDepth 20000

/-- The blocks of before, that of the pair, those of its lists. -/
def XQ (w0 : World) (xb : Nat) (pa pp : Option Addr) (k : Nat) : Prop := k < w0.heap.size ∨ k = xb ∨ (∃ a, pa = some a ∧ a.block = k) ∨ ∃ a, pp = some a ∧ a.block = k
/-- The document's pair says ld, the program's switch l. -/
structure PS (w0 w : World) (s xb : Nat) (pa pp : Option Addr) (n ca cp : Nat) (ld l : List E) : Prop where
  sw : Sw (XQ w0 xb pa pp) w s l
  x : Blk 39 w xb [.slice pa n ca, .slice pp n cp]
  len : n = ld.length
  a : Ints w pa ca (ld.map Prod.fst)
  p : Ints w pp cp (ld.map Prod.snd)
  bel : Below w0.heap.size w0 w
  lo : w0.heap.size ≤ xb
variable {w0 w w' : World} {s xb n n' : Nat} {pa pp pa' pp' : Option Addr} {ca cp ca' cp' : Nat} {ld ld' l l' : List E}
theorem PS.below (H : PS w0 w s xb pa pp n ca cp ld l) (hb : Below w.heap.size w w') : PS w0 w' s xb pa pp n ca cp ld l :=
  ⟨H.sw.below hb, H.x.below hb, H.len, H.a.below hb, H.p.below hb, bcall H.bel hb, H.lo⟩
theorem PS.turn (H : PS w0 w s xb pa pp n ca cp ld l) (hs : Sw (XQ w0 xb pa pp) w' s l') (hk : Keep (XQ w0 xb pa pp) w w') : PS w0 w' s xb pa pp n ca cp ld l' :=
  ⟨hs, (hk.block xb (.inr (.inl rfl))).trans H.x, H.len, hk.ints H.a (fun a e => .inr (.inr (.inl ⟨a, e, rfl⟩))), hk.ints H.p (fun a e => .inr (.inr (.inr ⟨a, e, rfl⟩))), H.bel.trans (hk.below (fun k h => .inl h)), H.lo⟩
/-- A new pair is stored. -/
theorem PS.store (H : PS w0 w s xb pa pp n ca cp ld l) (hb : Below w.heap.size w w') (ht : Two w.heap.size w' pa' pp' ca' cp' ld') (hn : n' = ld'.length) :
    PS w0 ((w'.setCell ⟨xb, 0, none⟩ (.slice pa' n' ca')).setCell ⟨xb, 1, none⟩ (.slice pp' n' cp')) s xb pa' pp' n' ca' cp' ld' l := by
  have hlt := H.x.lt
  have hs : Sw (XQ w0 xb pa' pp') w' s l := H.sw.late hb (fun k hk => by
    rcases hk with h | rfl | ⟨a, e, rfl⟩ | ⟨a, e, rfl⟩
    · exact ⟨.inl (.inl h), Nat.lt_of_lt_of_le h (Nat.le_trans H.bel.size hb.size)⟩
    · exact ⟨.inl (.inr (.inl rfl)), Nat.lt_of_lt_of_le hlt hb.size⟩
    · exact ⟨.inr (ht.la a e).1, (ht.la a e).2⟩
    · exact ⟨.inr (ht.lp a e).1, (ht.lp a e).2⟩)
  have hg1 := set_grown w' xb 0 (.slice pa' n' ca')
  have hs1 := hs.more hg1 (fun k e => by injection e with e; exact .inr (.inl e.symm)) (fun k hk => ⟨.inl hk, Nat.lt_of_lt_of_le (hs.xl k hk) hg1.size⟩)
  have hg2 := set_grown (w'.setCell ⟨xb, 0, none⟩ (.slice pa' n' ca')) xb 1 (.slice pp' n' cp')
  have hs2 := hs1.more hg2 (fun k e => by injection e with e; exact .inr (.inl e.symm)) (fun k hk => ⟨.inl hk, Nat.lt_of_lt_of_le (hs1.xl k hk) hg2.size⟩)
  have t2 := (ht.set xb 0 (.slice pa' n' ca') (fun x e => by have := (ht.la x e).1; omega) (fun x e => by have := (ht.lp x e).1; omega)).set xb 1 (.slice pp' n' cp') (fun x e => by have := (ht.la x e).1; omega) (fun x e => by have := (ht.lp x e).1; omega)
  exact ⟨hs2, ((H.x.below hb).set 0 (.slice pa' n' ca')).set 1 (.slice pp' n' cp'), hn, t2.a, t2.p, below_set (below_set (bcall H.bel hb) xb 0 _ H.lo) xb 1 _ H.lo, H.lo⟩
theorem Two.below {B : Nat} {w w' : World} {pa pp : Option Addr} {ca cp : Nat} {l : List E} (h : Two B w pa pp ca cp l) (hb : Below w.heap.size w w') : Two B w' pa pp ca cp l :=
  ⟨h.a.below hb, h.p.below hb, fun x e => ⟨(h.la x e).1, Nat.lt_of_lt_of_le (h.la x e).2 hb.size⟩, fun x e => ⟨(h.lp x e).1, Nat.lt_of_lt_of_le (h.lp x e).2 hb.size⟩⟩
theorem Two.mono {B B' : Nat} {w : World} {pa pp : Option Addr} {ca cp : Nat} {l : List E} (h : Two B w pa pp ca cp l) (hb : B' ≤ B) : Two B' w pa pp ca cp l :=
  ⟨h.a, h.p, fun x e => ⟨Nat.le_trans hb (h.la x e).1, (h.la x e).2⟩, fun x e => ⟨Nat.le_trans hb (h.lp x e).1, (h.lp x e).2⟩⟩
theorem PS.start {w1 : World} (hs : Sw (fun k => k < w0.heap.size) w1 s []) (hb : Below w0.heap.size w0 w1) : PS w0 (w1.alloc (.cells #[.slice none 0 0, .slice none 0 0] 39)) s w1.heap.size none none 0 0 0 [] [] :=
  ⟨hs.late (balloc (brefl w1) _) (fun k hk => by
    rcases hk with h | rfl | ⟨a, e, _⟩ | ⟨a, e, _⟩
    · exact ⟨.inl h, by have := hb.size; simp; omega⟩
    · exact ⟨.inr (Nat.le_refl _), by simp⟩
    · cases e
    · cases e), Blk.new w1 _ _, rfl, Ints.nil _, Ints.nil _, bcall hb (balloc (brefl w1) _), hb.size⟩
end Go.Proofs.YtbgbmchpikdgoaaDoor.Learn
