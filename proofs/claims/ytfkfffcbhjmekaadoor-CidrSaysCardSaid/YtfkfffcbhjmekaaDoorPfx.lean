/- Prefixes: how they lie in memory, as they come in, compared. No statement is proved here. -/
import Derived.Test.YtfkfffcbhjmekaaDoorCells
import Derived.Test.YtfkfffcbhjmekaaDoorCidrMath
import Derived.ChangeMaps5
import Derived.BigQuiet
import Derived.RegionTactic
import Derived.Laws.StructEq
import Derived.Shelf.RegionOpenPlain
namespace Go.Proofs.YtfkfffcbhjmekaaDoor.Cidr
open Go.ChangeShapes Go.WideShapes Go.ChangeAt Go.RowKit Go.Proofs.YtfkfffcbhjmekaaDoor.Kit Go.Proofs.YtfkfffcbhjmekaaDoor.App Go.Proofs.YtfkfffcbhjmekaaDoor.Cells Go.Proofs.YtfkfffcbhjmekaaDoor.CidrMath
set_option linter.unusedVariables false
set_option maxRecDepth 20000

def val (x : Pfx) : Value := .agg #[.int .i64 x.adr, .int .i64 x.len]
def lay : Lay Pfx := ⟨fun x => [.int .i64 x.adr, .int .i64 x.len], 2, by decide, fun _ => rfl, fun x v hv => by
  simp only [List.mem_cons, List.not_mem_nil, or_false] at hv
  rcases hv with rfl | rfl <;> rfl⟩
theorem ty : Ty lay 24 23 16 := ⟨Tryd.underlying24, by
  have h : (Tryd.prog.info? 23).map (fun i => (i.zero, i.size, i.bytes)) = some (some (.agg #[.int .i64 0, .int .i64 0]), 2, 16) := by kernel_rfl
  obtain ⟨i, hi, hz⟩ := Option.map_eq_some_iff.1 h
  simp only [Prod.mk.injEq] at hz
  exact ⟨i, _, hi, hz.1, hz.2.1, hz.2.2, rfl⟩, by decide⟩
/-- What may come in as a prefix. -/
def Fits (x : Pfx) : Prop := (Lit.int .i64 x.adr).wf = true ∧ (Lit.int .i64 x.len).wf = true
theorem prefix_dec {H : Type} {enc : TypeId × Value → H} {w : World} (fuel : Nat) (cs : List Value) (y : DataW H × List MemPlace) (h : DataW.trod enc Tryd.prog w 0 (fun _ => true) true fuel 23 cs = some y) : ∃ x : Pfx, cs = lay.enc x ∧ Fits x := by
  obtain ⟨xs, n, rfl, hx, hl, hxl, hall⟩ := DataW.trod_struct Tryd.underlying23 h
  have hc : Tryd.prog.cellsOf 23 = 2 := by kernel_rfl
  have ci : Tryd.prog.cellsOf 3 = 1 := by kernel_rfl
  rw [hc] at hl
  have h3 : xs.length = 2 := hxl
  obtain ⟨x0, x1, rfl⟩ : ∃ x0 x1, xs = [x0, x1] := by
    match xs, h3 with
    | [x0, x1], _ => exact ⟨x0, x1, rfl⟩
  have f0 := hall 0 _ rfl
  have f1 := hall 1 _ rfl
  change DataW.trod _ _ _ _ _ _ _ 3 ((cs.drop 0).take (Tryd.prog.cellsOf 3)) = some x0 at f0
  change DataW.trod _ _ _ _ _ _ _ 3 ((cs.drop 1).take (Tryd.prog.cellsOf 3)) = some x1 at f1
  rw [ci] at f0 f1
  obtain ⟨a, e0, _, ha⟩ := DataW.trod_int Tryd.underlying3 f0
  obtain ⟨b, e1, _, hb⟩ := DataW.trod_int Tryd.underlying3 f1
  refine ⟨⟨a, b⟩, ?_, ha, hb⟩
  match cs, hl with
  | [c0, c1], _ =>
    simp at e0 e1
    subst e0; subst e1
    rfl
theorem open_prefixes {H : Type} {enc : TypeId × Value → H} {w : World} {r : Reach} {b0 : Nat} {v : Value} {d : DataW H} {ps : List MemPlace}
    (hval : Value.okWide Tryd.prog w r b0 24 v) (hd : DataW.Trod enc Tryd.prog w 0 (fun _ => true) true 24 v d ps) (hlt : ∀ x ∈ ps, x.block < w.heap.size) :
    ∃ p cap ls, v = .slice p ls.length cap ∧ CI lay w p cap ls ∧ (∀ x ∈ ls, Fits x) ∧ (ls.length = 0 ∨ ∃ es sp, d = .slice es sp ∧ es.length = ls.length) :=
  open_C Fits Tryd.underlying24 (by kernel_rfl) prefix_dec hval hd hlt
theorem open_prefix {H : Type} {enc : TypeId × Value → H} {w : World} {r : Reach} {b0 : Nat} {v : Value} {d : DataW H} {ps : List MemPlace}
    (hval : Value.okWide Tryd.prog w r b0 23 v) (hd : DataW.Trod enc Tryd.prog w 0 (fun _ => true) true 23 v d ps) : ∃ x : Pfx, v = val x ∧ Fits x := by
  obtain ⟨fuel, hf⟩ := hd
  obtain ⟨x, hx, hF⟩ := prefix_dec fuel v.cells.toList (d, ps) hf
  obtain ⟨cs, rfl, _⟩ := okWide_struct Tryd.underlying23 hval
  refine ⟨x, ?_, hF⟩
  have h1 : cs.toList = lay.enc x := hx
  have : cs = #[.int .i64 x.adr, .int .i64 x.len] := Array.toList_inj.1 h1
  subst this
  rfl
/-- A literal of structs is the call's own. -/
theorem oc_lit {τ : Type} (L : Lay τ) (e : TypeId) (w : World) (ls : List τ) (hm : ls.length ≤ 700) : OC L e (w.alloc (.cells (L.all ls).toArray e)) w.heap.size (.slice (some ⟨w.heap.size, 0, none⟩) ls.length ls.length) ls :=
  ⟨L.all_len ls, .inr ⟨w.heap.size, ls.length, (L.all ls).toArray, rfl, Nat.le_refl _, alloc_new w _, Nat.le_refl _, by unfold maxLen; omega, by simp [L.all_len], by rw [List.take_of_length_le (by simp [L.all_len])]⟩⟩
/-- A prefix in a block. -/
def Box (w : World) (g : Nat) (x : Pfx) : Prop := g < w.heap.size ∧ w.cell? ⟨g, 0, none⟩ = some (.int .i64 x.adr) ∧ w.cell? ⟨g, 1, none⟩ = some (.int .i64 x.len)
theorem Box.new (w : World) (x : Pfx) (t : TypeId) : Box (w.alloc (.cells #[.int .i64 x.adr, .int .i64 x.len] t)) w.heap.size x := by
  have h : (w.alloc (.cells #[.int .i64 x.adr, .int .i64 x.len] t)).heap[w.heap.size]? = some (.cells #[.int .i64 x.adr, .int .i64 x.len] t) := alloc_new w _
  refine ⟨by simp, ?_, ?_⟩ <;> (unfold World.cell?; rw [h]; rfl)
theorem Box.below {w w' : World} {g B : Nat} {x : Pfx} (h : Box w g x) (hb : Below B w w') (hg : g < B) : Box w' g x := by
  have hk : w'.heap[g]? = w.heap[g]? := hb.block g hg
  refine ⟨Nat.lt_of_lt_of_le h.1 hb.size, ?_, ?_⟩
  · exact (World.cell?_of_block (w := w) (a := ⟨g, 0, none⟩) hk).trans h.2.1
  · exact (World.cell?_of_block (w := w) (a := ⟨g, 1, none⟩) hk).trans h.2.2
theorem Box.more {w w' : World} {g b : Nat} {x : Pfx} (h : Box w g x) (hg : w.grownBy w' (some b)) (hne : g ≠ b) : Box w' g x := by
  have hk : w'.heap[g]? = w.heap[g]? := hg.block g h.1 (by simpa using hne)
  refine ⟨Nat.lt_of_lt_of_le h.1 hg.size, ?_, ?_⟩
  · exact (World.cell?_of_block (w := w) (a := ⟨g, 0, none⟩) hk).trans h.2.1
  · exact (World.cell?_of_block (w := w) (a := ⟨g, 1, none⟩) hk).trans h.2.2
/-- Two prefixes compared. -/
theorem eqX (a1 a2 b1 b2 : Int) (W : World) :
    (Op.equalIn 10000 23 (.agg #[.int .i64 a1, .int .i64 a2]) (.agg #[.int .i64 b1, .int .i64 b2])).run Tryd.prog W = .ok (a1 == b1 && a2 == b2) W := by
  have hS : Tryd.prog.underlying 23 = some (.struct (Tryd.prog.fieldsOf 23)) := by kernel_rfl
  have hp : Tryd.prog.stoodInHeld 23 = false := by kernel_rfl
  rw [show (10000 : Nat) = 9999 + 1 from rfl, run_equalIn_agg W 9999 23 _ _ hS hp]
  simp only [Program.fieldsOf, Tryd.underlying23]
  go_simp
  cases h1 : (a1 == b1) <;> cases h2 : (a2 == b2) <;> simp_all
set_option maxHeartbeats 1000000 in
theorem prefixes_any (p q : Option Addr) (cap cap2 n m : Nat) (a b : List Pfx) (w : World) (hn : n = a.length) (hm : m = b.length) (ha : CI lay w p cap a) (hb : CI lay w q cap2 b) (R : Bool) (hR0 : R = true ↔ a = b) :
    Calls Tryd.prog 12 #[.slice p n cap, .slice q m cap2] w fun e w' => e = .returned (.bool R) ∧ ∃ m, w' = w.drewN m := by
  have hR := Lib.hid hR0
  have hgd : Tryd.prog.eqGuardType Tryd.prog.depth 23 = false := by kernel_rfl
  have hmix : Tryd.prog.follows .mixedOrders = true := by kernel_rfl
  clear hR0
  subst hn; subst hm
  have hla := ha.len_le
  have hlb := hb.len_le
  by_cases hlen : a.length = b.length
  · have t0 : ((a.length : Int) != (b.length : Int)) = false := by rw [hlen]; simp
    go_enter Tryd.func12, Tryd.ntmps12
    go_wp2
    go_loopw [5] (fun i wr => ∃ k m : Nat, k ≤ a.length ∧ i = .int .i64 k ∧ Hid (∀ j : Nat, j < k → a[j]? = b[j]?) ∧ wr = w.drewN m) (fun i _ => a.length - (intOf i).toNat)
    case atStart => exact ⟨0, 0, Nat.zero_le _, rfl, fun j hj => absurd hj (Nat.not_lt_zero _), rfl⟩
    case round =>
      obtain ⟨k, m, hk, rfl, H, rfl⟩ := hrel
      by_cases hlt : k < a.length
      · obtain ⟨b1, off1, rfl, hb1, hc1⟩ := ha.2.2 (by omega)
        obtain ⟨b2, off2, rfl, hb2, hc2⟩ := hb.2.2 (by omega)
        have hltb : k < b.length := by omega
        obtain ⟨⟨x1, x2⟩, hx⟩ : ∃ x, a[k]? = some x := ⟨_, List.getElem?_eq_getElem hlt⟩
        obtain ⟨⟨y1, y2⟩, hy⟩ : ∃ y, b[k]? = some y := ⟨_, List.getElem?_eq_getElem hltb⟩
        have hx0 : w.cell? ⟨b1, off1 + k * 2, none⟩ = some (.int .i64 x1) := hc1 k _ hx 0 _ rfl
        have hx1 : w.cell? ⟨b1, off1 + k * 2 + 1, none⟩ = some (.int .i64 x2) := hc1 k _ hx 1 _ rfl
        have hy0 : w.cell? ⟨b2, off2 + k * 2, none⟩ = some (.int .i64 y1) := hc2 k _ hy 0 _ rfl
        have hy1 : w.cell? ⟨b2, off2 + k * 2 + 1, none⟩ = some (.int .i64 y2) := hc2 k _ hy 1 _ rfl
        have Hx := Lib.hid hx
        have Hy := Lib.hid hy
        clear hc1 hc2 ha hb hx hy
        by_cases h1 : (x1 == y1 && x2 == y2) = true
        · have E : ∀ W, (Op.equalIn 10000 23 (.agg #[.int .i64 x1, .int .i64 x2]) (.agg #[.int .i64 y1, .int .i64 y2])).run Tryd.prog W = .ok true W := fun W => by rw [eqX, h1]
          have e1 : x1 = y1 ∧ x2 = y2 := by simpa using h1
          have He := Lib.hid e1
          clear h1 e1
          go_wp2_with fail
          go_big_region_o
          go_wp2_with fail
          go_roundw
          case rel => exact ⟨k + 1, m + 1, by omega, by first | rfl | go_num, fun j hj => by
            by_cases e : j = k
            · rw [e, Hx.out, Hy.out, He.out.1, He.out.2]
            · exact H.out j (by omega), rfl⟩
          case measure => simp [intOf]; omega
        · have h1' : (x1 == y1 && x2 == y2) = false := by simpa using h1
          have E : ∀ W, (Op.equalIn 10000 23 (.agg #[.int .i64 x1, .int .i64 x2]) (.agg #[.int .i64 y1, .int .i64 y2])).run Tryd.prog W = .ok false W := fun W => by rw [eqX, h1']
          have hR' : R = false := by
            cases R
            · rfl
            · exfalso
              have e := Option.some.inj (Hx.out.symm.trans ((by rw [hR.out.1 rfl] : a[k]? = b[k]?).trans Hy.out))
              injection e with e1 e2
              rw [e1, e2] at h1'
              simp at h1'
          clear hR h1 h1'
          subst hR'
          go_wp2_with fail
          go_big_region_o
          go_wp2_with fail
          go_ret
          exact ⟨rfl, m + 1, rfl⟩
      · obtain rfl : k = a.length := by omega
        have hR' : R = true := hR.out.2 (List.ext_getElem? fun j => by
          rcases Nat.lt_or_ge j a.length with h | h
          · exact H.out j h
          · rw [List.getElem?_eq_none h, List.getElem?_eq_none (by omega)])
        clear hR
        subst hR'
        go_wp2
        go_ret
        exact ⟨rfl, m, rfl⟩
  · have t0 : ((a.length : Int) != (b.length : Int)) = true := by rw [bne_iff_ne]; omega
    have hR' : R = false := by
      cases R
      · rfl
      · exact absurd (by rw [hR.out.1 rfl]) hlen
    clear hR
    subst hR'
    go_enter Tryd.func12, Tryd.ntmps12
    go_wp2
    go_ret
    exact ⟨rfl, 0, rfl⟩
end Go.Proofs.YtfkfffcbhjmekaaDoor.Cidr
