/- Package mux, MuxPlays: the program's ends beside the document's streams. No statement is proved here. -/
import Derived.Test.YtcleanjacijfoaaDoorMux3
import Derived.Test.YtcleanjacijfoaaDoorMuxRef
namespace Go.Proofs.YtcleanjacijfoaaDoor.Mux
open Go.ChangeShapes Go.WideShapes Go.ChangeAt Go.RowKit Go.Proofs.YtcleanjacijfoaaDoor.Kit Go.Proofs.YtcleanjacijfoaaDoor.App Go.Proofs.YtcleanjacijfoaaDoor.Cells Go.Proofs.YtcleanjacijfoaaDoor.Err
set_option linter.unusedVariables false
set_option maxRecDepth 20000

theorem rput_any {pd pr : Option Addr} {cd cr : Nat} {d r : Nat → Nat} (f : Frm) (w : World) (H : Dm w pd cd pr cr d r) (hok : Okm d r) (hsz : f.dat.size ≤ maxLen) :
    Calls Tryd.prog 13 #[.agg #[.slice pd 800 cd, .slice pr 4 cr], .agg #[.int .i64 f.st, .int .i64 f.pos, .string f.dat]] w fun e w' => MputP pd pr cr d r f w e w' := by
  by_cases hx : isS f.st ∧ isAt f.pos
  · by_cases hf : 200 - f.pos < (f.dat.size : Int)
    · exact rput_full f w H hok hsz hx hf
    · exact rput_in f w H hok hsz hx (by omega)
  · exact rput_range f w H hok hsz hx
/-- The program's ends hold d, r; the document's streams, boxed in block xb, hold dx, rx. -/
structure Pm (w0 w : World) (g xb : Nat) (pd : Option Addr) (cd : Nat) (pr : Option Addr) (cr : Nat) (d r dx rx : Nat → Nat) : Prop where
  en : Ends w g d r
  x : Blk 39 w xb [.slice pd 800 cd, .slice pr 4 cr]
  m : Dm w pd cd pr cr dx rx
  bel : Below w0.heap.size w0 w
  lg : w0.heap.size ≤ g
  lx : w0.heap.size ≤ xb
  gx : g ≠ xb
  dg : ∀ a, pd = some a → a.block ≠ g ∧ a.block ≠ xb ∧ a.block < w.heap.size
  rg : ∀ a, pr = some a → a.block ≠ g ∧ a.block ≠ xb ∧ a.block < w.heap.size
variable {w0 w w' : World} {g xb cd cr cd2 cr2 : Nat} {pd pr pd2 pr2 : Option Addr} {d r dx rx D R : Nat → Nat}
theorem Pm.below (H : Pm w0 w g xb pd cd pr cr d r dx rx) (hb : Below w.heap.size w w') : Pm w0 w' g xb pd cd pr cr d r dx rx :=
  ⟨H.en.below hb, H.x.below hb, H.m.below hb, bcall H.bel hb, H.lg, H.lx, H.gx, fun a e => ⟨(H.dg a e).1, (H.dg a e).2.1, Nat.lt_of_lt_of_le (H.dg a e).2.2 hb.size⟩, fun a e => ⟨(H.rg a e).1, (H.rg a e).2.1, Nat.lt_of_lt_of_le (H.rg a e).2.2 hb.size⟩⟩
theorem Pm.drew (H : Pm w0 w g xb pd cd pr cr d r dx rx) : Pm w0 w.drew g xb pd cd pr cr d r dx rx := H.below ⟨rfl, rfl, rfl, Nat.le_refl _, fun _ _ => rfl⟩
theorem ints_grow {p : Option Addr} {cap : Nat} {l : List Int} (h : Ints w p cap l) (hg : w.grownBy w' (some g)) (hp : ∀ a, p = some a → a.block ≠ g) : Ints w' p cap l :=
  h.keep hg.size (fun a e hl => hg.block _ hl (fun e2 => hp a e (Option.some.inj e2)))
/-- The program's ends turned. -/
theorem Pm.turn (H : Pm w0 w g xb pd cd pr cr d r dx rx) (hE : Ends w' g D R) (hg : w.grownBy w' (some g)) : Pm w0 w' g xb pd cd pr cr D R dx rx :=
  ⟨hE, H.x.more hg (fun e => H.gx (Option.some.inj e).symm), ⟨ints_grow H.m.d hg (fun a e => (H.dg a e).1), ints_grow H.m.r hg (fun a e => (H.rg a e).1)⟩,
    H.bel.grown hg H.bel.size (fun k e => by injection e with e; have := H.lg; omega), H.lg, H.lx, H.gx, fun a e => ⟨(H.dg a e).1, (H.dg a e).2.1, Nat.lt_of_lt_of_le (H.dg a e).2.2 hg.size⟩, fun a e => ⟨(H.rg a e).1, (H.rg a e).2.1, Nat.lt_of_lt_of_le (H.rg a e).2.2 hg.size⟩⟩
/-- The document's streams are stored anew. -/
def put2 (w : World) (xb : Nat) (pd : Option Addr) (cd : Nat) (pr : Option Addr) (cr : Nat) : World :=
  (w.setCell ⟨xb, 0, none⟩ (.slice pd 800 cd)).setCell ⟨xb, 1, none⟩ (.slice pr 4 cr)
theorem put2_grown (w : World) (xb : Nat) (pd : Option Addr) (cd : Nat) (pr : Option Addr) (cr : Nat) : w.grownBy (put2 w xb pd cd pr cr) (some xb) := grown_set (set_grown w xb 0 _) 1 _
theorem Pm.store (H : Pm w0 w g xb pd cd pr cr d r dx rx) (hb : Below w.heap.size w w') (hm : Dm w' pd2 cd2 pr2 cr2 D R)
    (h1 : ∀ a, pd2 = some a → pd = some a ∨ (w.heap.size ≤ a.block ∧ a.block < w'.heap.size)) (h2 : ∀ a, pr2 = some a → pr = some a ∨ (w.heap.size ≤ a.block ∧ a.block < w'.heap.size)) :
    Pm w0 (put2 w' xb pd2 cd2 pr2 cr2) g xb pd2 cd2 pr2 cr2 d r D R := by
  have hl1 := H.en.lt
  have hl2 := H.x.lt
  have hg := put2_grown w' xb pd2 cd2 pr2 cr2
  have hd : ∀ a, pd2 = some a → a.block ≠ g ∧ a.block ≠ xb ∧ a.block < w'.heap.size := fun a e => by
    rcases h1 a e with h | h
    · have := H.dg a h; have := hb.size; omega
    · have := h.1; have := h.2; omega
  have hr : ∀ a, pr2 = some a → a.block ≠ g ∧ a.block ≠ xb ∧ a.block < w'.heap.size := fun a e => by
    rcases h2 a e with h | h
    · have := H.rg a h; have := hb.size; omega
    · have := h.1; have := h.2; omega
  exact ⟨(H.en.below hb).more hg (fun e => H.gx (Option.some.inj e)), ((H.x.below hb).set 0 (.slice pd2 800 cd2)).set 1 (.slice pr2 4 cr2),
    ⟨ints_grow hm.d hg (fun a e => (hd a e).2.1), ints_grow hm.r hg (fun a e => (hr a e).2.1)⟩,
    (bcall H.bel hb).grown hg (Nat.le_trans H.bel.size hb.size) (fun k e => by injection e with e; have := H.lx; omega), H.lg, H.lx, H.gx,
    fun a e => ⟨(hd a e).1, (hd a e).2.1, Nat.lt_of_lt_of_le (hd a e).2.2 hg.size⟩, fun a e => ⟨(hr a e).1, (hr a e).2.1, Nat.lt_of_lt_of_le (hr a e).2.2 hg.size⟩⟩
theorem Pm.start {w1 w2 : World} (hE : Ends w1 g d r) (hb1 : Below w0.heap.size w0 w1) (hg : w0.heap.size ≤ g) (hb2 : Below w1.heap.size w1 w2) (hm : Dm w2 pd cd pr cr dx rx) (hd : ∀ a, pd = some a → w1.heap.size ≤ a.block ∧ a.block < w2.heap.size) (hr : ∀ a, pr = some a → w1.heap.size ≤ a.block ∧ a.block < w2.heap.size) :
    Pm w0 (w2.alloc (.cells #[.slice pd 800 cd, .slice pr 4 cr] 39)) g w2.heap.size pd cd pr cr d r dx rx := by
  have hl := hE.lt
  have hs := hb2.size
  have hs1 := hb1.size
  have hb3 := balloc (brefl w2) (.cells #[.slice pd 800 cd, .slice pr 4 cr] 39)
  refine ⟨(hE.below hb2).below hb3, Blk.new w2 _ _, hm.below hb3, bcall (bcall hb1 hb2) hb3, hg, by omega, by omega, fun a e => ?_, fun a e => ?_⟩
  · have := hd a e; simp; omega
  · have := hr a e; simp; omega
end Go.Proofs.YtcleanjacijfoaaDoor.Mux
