/- Fragments: how they lie in memory, as they come in, compared. No statement is proved here. -/
import Derived.Test.YtcleanjacijfoaaSub
import Derived.Test.YtcleanjacijfoaaCells
import Derived.ChangeMaps5
import Derived.BigQuiet
import Derived.RegionTactic
namespace Go.Proofs.Ytcleanjacijfoaa.Part
open Go.ChangeShapes Go.WideShapes Go.ChangeAt Go.RowKit Go.Proofs.Ytcleanjacijfoaa.Kit Go.Proofs.Ytcleanjacijfoaa.App Go.Proofs.Ytcleanjacijfoaa.Cells
set_option linter.unusedVariables false
set_option maxRecDepth 20000

/-- A fragment: where it stands, whether more follow, its bytes. -/
structure Prt where
  pos : Int
  more : Bool
  dat : ByteArray
def cells (x : Prt) : List Value := [.int .i64 x.pos, .bool x.more, .string x.dat]
def val (x : Prt) : Value := .agg #[.int .i64 x.pos, .bool x.more, .string x.dat]
def lay : Lay Prt := ⟨cells, 3, by decide, fun _ => rfl, fun x v hv => by
  simp only [cells, List.mem_cons, List.not_mem_nil, or_false] at hv
  rcases hv with rfl | rfl | rfl <;> rfl⟩
theorem ty : Ty lay 47 51 32 := ⟨Try.underlying47, by
  have h : (Try.prog.info? 51).map (fun i => (i.zero, i.size, i.bytes)) = some (some (.agg #[.int .i64 0, .bool false, .string .empty]), 3, 32) := by kernel_rfl
  obtain ⟨i, hi, hz⟩ := Option.map_eq_some_iff.1 h
  simp only [Prod.mk.injEq] at hz
  exact ⟨i, _, hi, hz.1, hz.2.1, hz.2.2, rfl⟩, by decide⟩

/- Texts, compared byte by byte. -/
theorem loop_eq (bs : ByteArray) : ∀ (n i : Nat) (r : List UInt8), bs.size - i = n → ByteArray.toList.loop bs i r = r.reverse ++ bs.data.toList.drop i := by
  intro n
  induction n with
  | zero =>
    intro i r h
    rw [ByteArray.toList.loop]
    have : ¬ i < bs.size := by omega
    rw [if_neg this, List.drop_eq_nil_of_le (by show bs.data.size ≤ i; have : bs.data.size = bs.size := rfl; omega), List.append_nil]
  | succ n ih =>
    intro i r h
    have hi : i < bs.size := by omega
    rw [ByteArray.toList.loop, if_pos hi, ih (i + 1) _ (by omega)]
    have hd : i < bs.data.toList.length := hi
    rw [List.reverse_cons, List.append_assoc, List.drop_eq_getElem_cons hd]
    congr 2
    show bs.data[i]! :: _ = _
    have : bs.data[i]! = bs.data.toList[i] := by
      have h2 : i < bs.data.size := hi
      rw [getElem!_pos bs.data i h2]; rfl
    rw [this]; rfl
theorem toList_data (bs : ByteArray) : bs.toList = bs.data.toList := by
  show ByteArray.toList.loop bs 0 [] = _
  rw [loop_eq bs _ 0 [] rfl]; simp
theorem toList_inj {a b : ByteArray} (h : a.toList = b.toList) : a = b := by
  rw [toList_data, toList_data] at h
  exact ByteArray.ext (Array.toList_inj.1 h)
/-- Two fragments are unlike in one of three ways. -/
theorem unlike {x y : Prt} (h : x ≠ y) : x.pos ≠ y.pos ∨ x.pos = y.pos ∧ x.more ≠ y.more ∨ x.pos = y.pos ∧ x.more = y.more ∧ x.dat.toList ≠ y.dat.toList := by
  obtain ⟨a, b, c⟩ := x
  obtain ⟨d, e, f⟩ := y
  by_cases h1 : a = d
  · by_cases h2 : b = e
    · exact .inr (.inr ⟨h1, h2, fun h3 => h (by have h4 : c = f := toList_inj h3; rw [h1, h2, h4])⟩)
    · exact .inr (.inl ⟨h1, h2⟩)
  · exact .inl h1

/-- What may come in as a fragment. -/
def Fits (x : Prt) : Prop := (Lit.int .i64 x.pos).wf = true ∧ x.dat.size ≤ maxLen
theorem part_dec {H : Type} {enc : TypeId × Value → H} {w : World} (fuel : Nat) (cs : List Value) (y : DataW H × List MemPlace) (h : DataW.trod enc Try.prog w 0 (fun _ => true) true fuel 51 cs = some y) : ∃ x : Prt, cs = lay.enc x ∧ Fits x := by
  obtain ⟨xs, n, rfl, hx, hl, hxl, hall⟩ := DataW.trod_struct Try.underlying51 h
  have hc : Try.prog.cellsOf 51 = 3 := by kernel_rfl
  have ci : Try.prog.cellsOf 3 = 1 := by kernel_rfl
  have cb : Try.prog.cellsOf 4 = 1 := by kernel_rfl
  have cs1 : Try.prog.cellsOf 9 = 1 := by kernel_rfl
  rw [hc] at hl
  have h3 : xs.length = 3 := hxl
  obtain ⟨x0, x1, x2, rfl⟩ : ∃ x0 x1 x2, xs = [x0, x1, x2] := by
    match xs, h3 with
    | [x0, x1, x2], _ => exact ⟨x0, x1, x2, rfl⟩
  have f0 := hall 0 _ rfl
  have f1 := hall 1 _ rfl
  have f2 := hall 2 _ rfl
  change DataW.trod _ _ _ _ _ _ _ 3 ((cs.drop 0).take (Try.prog.cellsOf 3)) = some x0 at f0
  change DataW.trod _ _ _ _ _ _ _ 4 ((cs.drop 1).take (Try.prog.cellsOf 4)) = some x1 at f1
  change DataW.trod _ _ _ _ _ _ _ 9 ((cs.drop 2).take (Try.prog.cellsOf 9)) = some x2 at f2
  rw [ci] at f0
  rw [cb] at f1
  rw [cs1] at f2
  obtain ⟨a, e0, _, ha⟩ := DataW.trod_int Try.underlying3 f0
  obtain ⟨b, e1, _⟩ := DataW.trod_bool Try.underlying4 f1
  obtain ⟨s, e2, _, hs⟩ := DataW.trod_string Try.underlying9 f2
  refine ⟨⟨a, b, s⟩, ?_, ha, hs⟩
  match cs, hl with
  | [c0, c1, c2], _ =>
    simp at e0 e1 e2
    subst e0; subst e1; subst e2
    rfl
theorem open_parts {H : Type} {enc : TypeId × Value → H} {w : World} {r : Reach} {b0 : Nat} {v : Value} {d : DataW H} {ps : List MemPlace}
    (hval : Value.okWide Try.prog w r b0 47 v) (hd : DataW.Trod enc Try.prog w 0 (fun _ => true) true 47 v d ps) (hlt : ∀ x ∈ ps, x.block < w.heap.size) :
    ∃ p cap ls, v = .slice p ls.length cap ∧ CI lay w p cap ls ∧ (∀ x ∈ ls, Fits x) ∧ (ls.length = 0 ∨ ∃ es sp, d = .slice es sp ∧ es.length = ls.length) :=
  open_C Fits Try.underlying47 (by kernel_rfl) part_dec hval hd hlt
theorem open_part {H : Type} {enc : TypeId × Value → H} {w : World} {r : Reach} {b0 : Nat} {v : Value} {d : DataW H} {ps : List MemPlace}
    (hval : Value.okWide Try.prog w r b0 51 v) (hd : DataW.Trod enc Try.prog w 0 (fun _ => true) true 51 v d ps) : ∃ x : Prt, v = val x ∧ Fits x := by
  obtain ⟨fuel, hf⟩ := hd
  obtain ⟨x, hx, hF⟩ := part_dec fuel v.cells.toList (d, ps) hf
  obtain ⟨cs, rfl, _⟩ := okWide_struct Try.underlying51 hval
  refine ⟨x, ?_, hF⟩
  have h1 : cs.toList = lay.enc x := hx
  have : cs = #[.int .i64 x.pos, .bool x.more, .string x.dat] := Array.toList_inj.1 h1
  subst this
  rfl
end Go.Proofs.Ytcleanjacijfoaa.Part
