/- Package nat, the document's answer: Out. No statement is proved here. -/
import Derived.Test.YtlojehakifagbaaDoorNatRef
import Derived.Test.YtlojehakifagbaaDoorPlaces
import Derived.Test.YtlojehakifagbaaDoorCell4Two
import Derived.Test.YtlojehakifagbaaDoorBehind
namespace Go.Proofs.YtlojehakifagbaaDoor.Nat_
open Go.ChangeShapes Go.WideShapes Go.ChangeAt Go.RowKit Go.Proofs.YtlojehakifagbaaDoor.Kit Go.Proofs.YtlojehakifagbaaDoor.App Go.Proofs.YtlojehakifagbaaDoor.Cells Go.Proofs.YtlojehakifagbaaDoor.Err Go.Proofs.YtlojehakifagbaaDoor.MapG
set_option linter.unusedVariables false
set_option maxRecDepth 20000
set_option maxHeartbeats 2000000

/-- What the document's table holds, in memory. -/
structure Dt (w w' : World) (pp pl pp' : Option Addr) (n' cp' : Nat) (pl' : Option Addr) (cl' : Nat) (L' : List En) : Prop where
  len : n' = L'.length
  p : Ints w' pp' cp' (L'.map Prod.fst)
  l : CI lay w' pl' cl' (L'.map Prod.snd)
  bp : ∀ a, pp' = some a → pp = some a ∨ (w.heap.size ≤ a.block ∧ a.block < w'.heap.size)
  bl : ∀ a, pl' = some a → pl = some a ∨ (w.heap.size ≤ a.block ∧ a.block < w'.heap.size)
theorem oc_set {e : TypeId} {w : World} {base : Nat} {v : Value} {ls : List Plc} (h : OC lay e w base v ls) (g k : Nat) (u : Value) (hg : g < base) : OC lay e (w.setCell ⟨g, k, none⟩ u) base v ls :=
  h.more (set_grown w g k u) (by
    cases hv : v.ownBlock with
    | none => exact .inl rfl
    | some j => exact .inr (fun e => by have := (h.lt j hv).1; injection e with e; omega))
theorem ow_set {w : World} {base : Nat} {v : Value} {ls : List Int} (h : OwnI w base v ls) (g k : Nat) (u : Value) (hg : g < base) : OwnI (w.setCell ⟨g, k, none⟩ u) base v ls :=
  h.more (set_grown w g k u) (by
    cases hv : v.ownBlock with
    | none => exact .inl rfl
    | some j => exact .inr (fun e => by have := (h.lt j hv).1; injection e with e; omega))
/-- A list of places of the call's own as it reads, and where it lies. -/
theorem oc_read {e : TypeId} {w : World} {base : Nat} {v : Value} {l : List Plc} (h : OC lay e w base v l) : ∃ p cap, v = .slice p l.length cap ∧ CI lay w p cap l ∧ ∀ a, p = some a → base ≤ a.block ∧ a.block < w.heap.size := by
  have hlt := h.lt
  obtain ⟨p, cap, rfl, hi⟩ := h.form
  refine ⟨p, cap, rfl, hi, fun a e => ?_⟩
  subst e
  exact hlt a.block rfl
/-- What the document's Out answers. -/
def RoutP (low many : Nat) (pp pl : Option Addr) (h : Int → Option Plc) (x : Plc) (w : World) (e : Ending) (w' : World) : Prop := ∃ pp' n' cp' pl' cl' L' port cc h', e = .returned (.tuple #[.agg #[.int .i64 (low : Int), .int .i64 (many : Int), .slice pp' n' cp', .slice pl' n' cl'], .int .i64 port, .int .i64 cc]) ∧ OutR low many h x port cc h' ∧ RL h' L' ∧ Dt w w' pp pl pp' n' cp' pl' cl' L' ∧ Below w.heap.size w w'
theorem rout_bad (low many : Nat) (pp pl : Option Addr) (n cp cl : Nat) (L : List En) (h : Int → Option Plc) (a c : Int) (w : World) (R : RL h L) (H : Tb low many h) (hn : n = L.length) (hi : Ints w pp cp (L.map Prod.fst)) (hj : CI lay w pl cl (L.map Prod.snd)) (hx : ¬ good ⟨a, c⟩) :
    Calls Tryd.prog 16 #[.agg #[.int .i64 (low : Int), .int .i64 (many : Int), .slice pp n cp, .slice pl n cl], .agg #[.int .i64 a, .int .i64 c]] w fun e w' => RoutP low many pp pl h ⟨a, c⟩ w e w' := by
  have hlen := hi.len_le
  rw [List.length_map, ← hn] at hlen
  have hl30 := R.few H
  obtain ⟨B, hB⟩ : ∃ B, w.heap.size = B := ⟨_, rfl⟩
  obtain ⟨w3, h3⟩ : ∃ w3, ((w.alloc (.cells #[.int .i64 (low : Int), .int .i64 (many : Int), .slice pp n cp, .slice pl n cl] 45)).alloc (.cells #[.int .i64 a, .int .i64 c] 24)).alloc (.cells #[.int .i64 0, .int .i64 0, .slice none 0 0, .slice none 0 0] 45) = w3 := ⟨_, rfl⟩
  have hx1 : Blk 45 w3 B [.int .i64 (low : Int), .int .i64 (many : Int), .slice pp n cp, .slice pl n cl] := by
    rw [← h3, ← hB]
    exact ((Blk.new w 45 _).alloc _).alloc _
  have hx2 : Box w3 (B + 1) ⟨a, c⟩ := by
    rw [← h3, ← hB]
    have := (Box.new (w.alloc (.cells #[.int .i64 (low : Int), .int .i64 (many : Int), .slice pp n cp, .slice pl n cl] 45)) ⟨a, c⟩ 24).alloc (.cells #[.int .i64 0, .int .i64 0, .slice none 0 0, .slice none 0 0] 45)
    rw [show (w.alloc (.cells #[.int .i64 (low : Int), .int .i64 (many : Int), .slice pp n cp, .slice pl n cl] 45)).heap.size = w.heap.size + 1 by simp] at this
    exact this
  have hx3 : Blk 45 w3 (B + 1 + 1) [.int .i64 0, .int .i64 0, .slice none 0 0, .slice none 0 0] := by
    rw [← h3, ← hB]
    have := Blk.new ((w.alloc (.cells #[.int .i64 (low : Int), .int .i64 (many : Int), .slice pp n cp, .slice pl n cl] 45)).alloc (.cells #[.int .i64 a, .int .i64 c] 24)) 45 [.int .i64 0, .int .i64 0, .slice none 0 0, .slice none 0 0]
    rw [show ((w.alloc (.cells #[.int .i64 (low : Int), .int .i64 (many : Int), .slice pp n cp, .slice pl n cl] 45)).alloc (.cells #[.int .i64 a, .int .i64 c] 24)).heap.size = w.heap.size + 2 by simp] at this
    exact this
  have hb3 : Below w.heap.size w w3 := by rw [← h3]; exact balloc (balloc (balloc (brefl w) _) _) _
  have hs3 : w3.heap.size = B + 3 := by rw [← h3, ← hB]; simp
  have HX1 := Lib.hid hx1
  have HX2 := Lib.hid hx2
  have HX3 := Lib.hid hx3
  have HB3 := Lib.hid hb3
  have HBB := Lib.hid hB
  have HS3 := Lib.hid hs3
  have HI := Lib.hid (fun W (hW : Below w.heap.size w W) => hi.below hW)
  have HJ := Lib.hid (fun W (hW : Below w.heap.size w W) => hj.below hW)
  have HN := Lib.hid hn
  have H3 := Lib.hid h3
  have HR := Lib.hid R
  have HT := Lib.hid H
  clear hi hj hn hx1 hx2 hx3 hb3 hB h3 R H hs3
  have HBAD := Lib.hid hx
  have HBE := HB3
  by_cases ha : num a
  · have I1 := Lib.hid (fun W => rin_any a 0 65535 W true (in_true ha))
    have I2 := Lib.hid (fun W => rin_any c 0 65535 W false (in_false (fun hc => hx ⟨ha, hc⟩)))
    clear hx ha
    go_enter Tryd.func16, Tryd.ntmps16
    go_wp2_with fail
    rw [H3.out, HBB.out]
    have c20 := HX1.out.cell 0 _ rfl
    have c21 := HX1.out.cell 1 _ rfl
    have c22 := HX1.out.cell 2 _ rfl
    have c23 := HX1.out.cell 3 _ rfl
    have d0 := HX2.out.2.1
    have d1 := HX2.out.2.2
    have e0 := HX3.out.cell 0 _ rfl
    have e1 := HX3.out.cell 1 _ rfl
    have e2 := HX3.out.cell 2 _ rfl
    have e3 := HX3.out.cell 3 _ rfl
    have f0 := HX3.out.fz 0
    have f1 := HX3.out.fz 1
    have f2 := HX3.out.fz 2
    have f3 := HX3.out.fz 3
    go_wp2_with fail
    refine (I1.out _).mono ?_; rintro e w4 ⟨rfl, rfl⟩
    go_wp2_with fail
    refine (I2.out _).mono ?_; rintro e w5 ⟨rfl, rfl⟩
    go_wp2_with fail
    have HE := Lib.hid ((((HX3.out.set 0 (.int .i64 (low : Int))).set 1 (.int .i64 (many : Int))).set 2 (.slice pp n cp)).set 3 (.slice pl n cl))
    have hbe := below_set (below_set (below_set (below_set HBE.out (B + 1 + 1) 0 (.int .i64 (low : Int)) (by have := HBB.out; omega)) (B + 1 + 1) 1 (.int .i64 (many : Int)) (by have := HBB.out; omega)) (B + 1 + 1) 2 (.slice pp n cp) (by have := HBB.out; omega)) (B + 1 + 1) 3 (.slice pl n cl) (by have := HBB.out; omega)
    exact bodyPost_ret (results_four2 rfl Tryd.isAgg45 Tryd.sizeOf45 _ _ (B + 1 + 1) rfl _ _ _ _ (HE.out.cell 0 _ rfl) (HE.out.cell 1 _ rfl) (HE.out.cell 2 _ rfl) (HE.out.cell 3 _ rfl)) rfl
      ⟨pp, n, cp, pl, cl, L, 0, 1, h, rfl, .inl ⟨HBAD.out, rfl, rfl, rfl⟩, HR.out, ⟨HN.out, HI.out _ hbe, HJ.out _ hbe, fun a e => .inl e, fun a e => .inl e⟩, hbe⟩
  · have I1 := Lib.hid (fun W => rin_any a 0 65535 W false (in_false ha))
    clear hx ha
    go_enter Tryd.func16, Tryd.ntmps16
    go_wp2_with fail
    rw [H3.out, HBB.out]
    have c20 := HX1.out.cell 0 _ rfl
    have c21 := HX1.out.cell 1 _ rfl
    have c22 := HX1.out.cell 2 _ rfl
    have c23 := HX1.out.cell 3 _ rfl
    have d0 := HX2.out.2.1
    have d1 := HX2.out.2.2
    have e0 := HX3.out.cell 0 _ rfl
    have e1 := HX3.out.cell 1 _ rfl
    have e2 := HX3.out.cell 2 _ rfl
    have e3 := HX3.out.cell 3 _ rfl
    have f0 := HX3.out.fz 0
    have f1 := HX3.out.fz 1
    have f2 := HX3.out.fz 2
    have f3 := HX3.out.fz 3
    go_wp2_with fail
    refine (I1.out _).mono ?_; rintro e w4 ⟨rfl, rfl⟩
    go_wp2_with fail
    have HE := Lib.hid ((((HX3.out.set 0 (.int .i64 (low : Int))).set 1 (.int .i64 (many : Int))).set 2 (.slice pp n cp)).set 3 (.slice pl n cl))
    have hbe := below_set (below_set (below_set (below_set HBE.out (B + 1 + 1) 0 (.int .i64 (low : Int)) (by have := HBB.out; omega)) (B + 1 + 1) 1 (.int .i64 (many : Int)) (by have := HBB.out; omega)) (B + 1 + 1) 2 (.slice pp n cp) (by have := HBB.out; omega)) (B + 1 + 1) 3 (.slice pl n cl) (by have := HBB.out; omega)
    exact bodyPost_ret (results_four2 rfl Tryd.isAgg45 Tryd.sizeOf45 _ _ (B + 1 + 1) rfl _ _ _ _ (HE.out.cell 0 _ rfl) (HE.out.cell 1 _ rfl) (HE.out.cell 2 _ rfl) (HE.out.cell 3 _ rfl)) rfl
      ⟨pp, n, cp, pl, cl, L, 0, 1, h, rfl, .inl ⟨HBAD.out, rfl, rfl, rfl⟩, HR.out, ⟨HN.out, HI.out _ hbe, HJ.out _ hbe, fun a e => .inl e, fun a e => .inl e⟩, hbe⟩
theorem rout_has (low many : Nat) (pp pl : Option Addr) (n cp cl : Nat) (L : List En) (h : Int → Option Plc) (a c : Int) (w : World) (R : RL h L) (H : Tb low many h) (hn : n = L.length) (hi : Ints w pp cp (L.map Prod.fst)) (hj : CI lay w pl cl (L.map Prod.snd)) (hx : good ⟨a, c⟩) (q : Int) (hq : h q = some ⟨a, c⟩) :
    Calls Tryd.prog 16 #[.agg #[.int .i64 (low : Int), .int .i64 (many : Int), .slice pp n cp, .slice pl n cl], .agg #[.int .i64 a, .int .i64 c]] w fun e w' => RoutP low many pp pl h ⟨a, c⟩ w e w' := by
  have hpr : pr L ⟨a, c⟩ = q ∧ 0 ≤ q := by
    have hm := (R.mem q ⟨a, c⟩).1 hq
    rcases pr_cases L ⟨a, c⟩ with ⟨_, h2⟩ | ⟨r, h1, h2⟩
    · exact absurd rfl (h2 _ hm)
    · have := H.inj _ _ _ hq ((R.mem r ⟨a, c⟩).2 h1)
      exact ⟨by rw [h2, this], (R.wf H _ hm).2⟩
  have hlen := hi.len_le
  rw [List.length_map, ← hn] at hlen
  have hl30 := R.few H
  obtain ⟨B, hB⟩ : ∃ B, w.heap.size = B := ⟨_, rfl⟩
  obtain ⟨w3, h3⟩ : ∃ w3, ((w.alloc (.cells #[.int .i64 (low : Int), .int .i64 (many : Int), .slice pp n cp, .slice pl n cl] 45)).alloc (.cells #[.int .i64 a, .int .i64 c] 24)).alloc (.cells #[.int .i64 0, .int .i64 0, .slice none 0 0, .slice none 0 0] 45) = w3 := ⟨_, rfl⟩
  have hx1 : Blk 45 w3 B [.int .i64 (low : Int), .int .i64 (many : Int), .slice pp n cp, .slice pl n cl] := by
    rw [← h3, ← hB]
    exact ((Blk.new w 45 _).alloc _).alloc _
  have hx2 : Box w3 (B + 1) ⟨a, c⟩ := by
    rw [← h3, ← hB]
    have := (Box.new (w.alloc (.cells #[.int .i64 (low : Int), .int .i64 (many : Int), .slice pp n cp, .slice pl n cl] 45)) ⟨a, c⟩ 24).alloc (.cells #[.int .i64 0, .int .i64 0, .slice none 0 0, .slice none 0 0] 45)
    rw [show (w.alloc (.cells #[.int .i64 (low : Int), .int .i64 (many : Int), .slice pp n cp, .slice pl n cl] 45)).heap.size = w.heap.size + 1 by simp] at this
    exact this
  have hx3 : Blk 45 w3 (B + 1 + 1) [.int .i64 0, .int .i64 0, .slice none 0 0, .slice none 0 0] := by
    rw [← h3, ← hB]
    have := Blk.new ((w.alloc (.cells #[.int .i64 (low : Int), .int .i64 (many : Int), .slice pp n cp, .slice pl n cl] 45)).alloc (.cells #[.int .i64 a, .int .i64 c] 24)) 45 [.int .i64 0, .int .i64 0, .slice none 0 0, .slice none 0 0]
    rw [show ((w.alloc (.cells #[.int .i64 (low : Int), .int .i64 (many : Int), .slice pp n cp, .slice pl n cl] 45)).alloc (.cells #[.int .i64 a, .int .i64 c] 24)).heap.size = w.heap.size + 2 by simp] at this
    exact this
  have hb3 : Below w.heap.size w w3 := by rw [← h3]; exact balloc (balloc (balloc (brefl w) _) _) _
  have hs3 : w3.heap.size = B + 3 := by rw [← h3, ← hB]; simp
  have HX1 := Lib.hid hx1
  have HX2 := Lib.hid hx2
  have HX3 := Lib.hid hx3
  have HB3 := Lib.hid hb3
  have HBB := Lib.hid hB
  have HS3 := Lib.hid hs3
  have HI := Lib.hid (fun W (hW : Below w.heap.size w W) => hi.below hW)
  have HJ := Lib.hid (fun W (hW : Below w.heap.size w W) => hj.below hW)
  have HN := Lib.hid hn
  have H3 := Lib.hid h3
  have HR := Lib.hid R
  have HT := Lib.hid H
  clear hi hj hn hx1 hx2 hx3 hb3 hB h3 R H hs3
  have I1 := Lib.hid (fun W => rin_any a 0 65535 W true (in_true hx.1))
  have I2 := Lib.hid (fun W => rin_any c 0 65535 W true (in_true hx.2))
  have CP := Lib.hid (rport_any (low : Int) (many : Int) pp pl n n cp cl L a c w3 HN.out HN.out (HI.out _ HB3.out) (HJ.out _ HB3.out))
  have HG := Lib.hid hx
  have HQ := Lib.hid hq
  rw [hpr.1] at CP
  have t1 : decide (0 ≤ q) = true := decide_eq_true hpr.2
  have t2 : decide (q ≥ 0) = true := t1
  clear hx hq hpr
  go_enter Tryd.func16, Tryd.ntmps16
  go_wp2_with fail
  rw [H3.out, HBB.out]
  have c20 := HX1.out.cell 0 _ rfl
  have c21 := HX1.out.cell 1 _ rfl
  have c22 := HX1.out.cell 2 _ rfl
  have c23 := HX1.out.cell 3 _ rfl
  have d0 := HX2.out.2.1
  have d1 := HX2.out.2.2
  have e0 := HX3.out.cell 0 _ rfl
  have e1 := HX3.out.cell 1 _ rfl
  have e2 := HX3.out.cell 2 _ rfl
  have e3 := HX3.out.cell 3 _ rfl
  have f0 := HX3.out.fz 0
  have f1 := HX3.out.fz 1
  have f2 := HX3.out.fz 2
  have f3 := HX3.out.fz 3
  go_wp2_with fail
  refine (I1.out _).mono ?_; rintro e w4 ⟨rfl, hw4⟩
  rw [hw4]
  clear hw4 w4
  go_wp2_with fail
  refine (I2.out _).mono ?_; rintro e w4 ⟨rfl, hw4⟩
  rw [hw4]
  clear hw4 w4
  go_wp2_with fail
  refine CP.out.mono ?_; rintro e w4 ⟨rfl, hb4⟩
  have HX1 := Lib.hid (HX1.out.below hb4)
  have HX2 := Lib.hid (HX2.out.below hb4 HX2.out.1)
  have HX3 := Lib.hid (HX3.out.below hb4)
  have HBE := Lib.hid (bcall HB3.out hb4)
  have HW := Lib.hid hb4
  clear hb4 CP c20 c21 c22 c23 d0 d1 e0 e1 e2 e3 f0 f1 f2 f3 HB3
  have c20 := HX1.out.cell 0 _ rfl
  have c21 := HX1.out.cell 1 _ rfl
  have c22 := HX1.out.cell 2 _ rfl
  have c23 := HX1.out.cell 3 _ rfl
  have d0 := HX2.out.2.1
  have d1 := HX2.out.2.2
  have e0 := HX3.out.cell 0 _ rfl
  have e1 := HX3.out.cell 1 _ rfl
  have e2 := HX3.out.cell 2 _ rfl
  have e3 := HX3.out.cell 3 _ rfl
  have f0 := HX3.out.fz 0
  have f1 := HX3.out.fz 1
  have f2 := HX3.out.fz 2
  have f3 := HX3.out.fz 3
  go_wp2_with fail
  have HE := Lib.hid ((((HX3.out.set 0 (.int .i64 (low : Int))).set 1 (.int .i64 (many : Int))).set 2 (.slice pp n cp)).set 3 (.slice pl n cl))
  have hbe := below_set (below_set (below_set (below_set HBE.out (B + 1 + 1) 0 (.int .i64 (low : Int)) (by have := HBB.out; omega)) (B + 1 + 1) 1 (.int .i64 (many : Int)) (by have := HBB.out; omega)) (B + 1 + 1) 2 (.slice pp n cp) (by have := HBB.out; omega)) (B + 1 + 1) 3 (.slice pl n cl) (by have := HBB.out; omega)
  exact bodyPost_ret (results_four2 rfl Tryd.isAgg45 Tryd.sizeOf45 _ _ (B + 1 + 1) rfl _ _ _ _ (HE.out.cell 0 _ rfl) (HE.out.cell 1 _ rfl) (HE.out.cell 2 _ rfl) (HE.out.cell 3 _ rfl)) rfl
    ⟨pp, n, cp, pl, cl, L, q, 0, h, rfl, .inr (.inl ⟨HG.out, HQ.out, rfl, rfl⟩), HR.out, ⟨HN.out, HI.out _ hbe, HJ.out _ hbe, fun a e => .inl e, fun a e => .inl e⟩, hbe⟩
theorem rout_none (low many : Nat) (pp pl : Option Addr) (n cp cl : Nat) (L : List En) (h : Int → Option Plc) (a c : Int) (w : World) (R : RL h L) (H : Tb low many h) (hn : n = L.length) (hi : Ints w pp cp (L.map Prod.fst)) (hj : CI lay w pl cl (L.map Prod.snd)) (hx : good ⟨a, c⟩) (hno : ∀ q, h q ≠ some ⟨a, c⟩) :
    Calls Tryd.prog 16 #[.agg #[.int .i64 (low : Int), .int .i64 (many : Int), .slice pp n cp, .slice pl n cl], .agg #[.int .i64 a, .int .i64 c]] w fun e w' => RoutP low many pp pl h ⟨a, c⟩ w e w' := by
  have hpr : pr L ⟨a, c⟩ = -1 := by
    rcases pr_cases L ⟨a, c⟩ with ⟨h1, _⟩ | ⟨r, h1, _⟩
    · exact h1
    · exact absurd ((R.mem r ⟨a, c⟩).2 h1) (hno r)
  have hlen := hi.len_le
  rw [List.length_map, ← hn] at hlen
  have hl30 := R.few H
  obtain ⟨B, hB⟩ : ∃ B, w.heap.size = B := ⟨_, rfl⟩
  obtain ⟨w3, h3⟩ : ∃ w3, ((w.alloc (.cells #[.int .i64 (low : Int), .int .i64 (many : Int), .slice pp n cp, .slice pl n cl] 45)).alloc (.cells #[.int .i64 a, .int .i64 c] 24)).alloc (.cells #[.int .i64 0, .int .i64 0, .slice none 0 0, .slice none 0 0] 45) = w3 := ⟨_, rfl⟩
  have hx1 : Blk 45 w3 B [.int .i64 (low : Int), .int .i64 (many : Int), .slice pp n cp, .slice pl n cl] := by
    rw [← h3, ← hB]
    exact ((Blk.new w 45 _).alloc _).alloc _
  have hx2 : Box w3 (B + 1) ⟨a, c⟩ := by
    rw [← h3, ← hB]
    have := (Box.new (w.alloc (.cells #[.int .i64 (low : Int), .int .i64 (many : Int), .slice pp n cp, .slice pl n cl] 45)) ⟨a, c⟩ 24).alloc (.cells #[.int .i64 0, .int .i64 0, .slice none 0 0, .slice none 0 0] 45)
    rw [show (w.alloc (.cells #[.int .i64 (low : Int), .int .i64 (many : Int), .slice pp n cp, .slice pl n cl] 45)).heap.size = w.heap.size + 1 by simp] at this
    exact this
  have hx3 : Blk 45 w3 (B + 1 + 1) [.int .i64 0, .int .i64 0, .slice none 0 0, .slice none 0 0] := by
    rw [← h3, ← hB]
    have := Blk.new ((w.alloc (.cells #[.int .i64 (low : Int), .int .i64 (many : Int), .slice pp n cp, .slice pl n cl] 45)).alloc (.cells #[.int .i64 a, .int .i64 c] 24)) 45 [.int .i64 0, .int .i64 0, .slice none 0 0, .slice none 0 0]
    rw [show ((w.alloc (.cells #[.int .i64 (low : Int), .int .i64 (many : Int), .slice pp n cp, .slice pl n cl] 45)).alloc (.cells #[.int .i64 a, .int .i64 c] 24)).heap.size = w.heap.size + 2 by simp] at this
    exact this
  have hb3 : Below w.heap.size w w3 := by rw [← h3]; exact balloc (balloc (balloc (brefl w) _) _) _
  have hs3 : w3.heap.size = B + 3 := by rw [← h3, ← hB]; simp
  have HX1 := Lib.hid hx1
  have HX2 := Lib.hid hx2
  have HX3 := Lib.hid hx3
  have HB3 := Lib.hid hb3
  have HBB := Lib.hid hB
  have HS3 := Lib.hid hs3
  have HI := Lib.hid (fun W (hW : Below w.heap.size w W) => hi.below hW)
  have HJ := Lib.hid (fun W (hW : Below w.heap.size w W) => hj.below hW)
  have HN := Lib.hid hn
  have H3 := Lib.hid h3
  have HR := Lib.hid R
  have HT := Lib.hid H
  clear hi hj hn hx1 hx2 hx3 hb3 hB h3 R H hs3
  have I1 := Lib.hid (fun W => rin_any a 0 65535 W true (in_true hx.1))
  have I2 := Lib.hid (fun W => rin_any c 0 65535 W true (in_true hx.2))
  have CP := Lib.hid (rport_any (low : Int) (many : Int) pp pl n n cp cl L a c w3 HN.out HN.out (HI.out _ HB3.out) (HJ.out _ HB3.out))
  have HG := Lib.hid hx
  have HNO := Lib.hid hno
  rw [hpr] at CP
  have hlo := HT.out.lo
  have hmi := HT.out.m30
  obtain ⟨hi, hhi⟩ : ∃ hi : Nat, hi = low + many := ⟨_, rfl⟩
  have u0 : IntKind.i64.wrap ((low : Int) + (many : Int)) = (hi : Int) := by rw [wrap_in (by omega)]; omega
  have HHI := Lib.hid hhi
  have hhi6 : hi ≤ 65536 := by omega
  have hlh : low ≤ hi := by omega
  clear hx hno hpr hhi hlo hmi
  go_enter Tryd.func16, Tryd.ntmps16
  go_wp2_with fail
  rw [H3.out, HBB.out]
  have c20 := HX1.out.cell 0 _ rfl
  have c21 := HX1.out.cell 1 _ rfl
  have c22 := HX1.out.cell 2 _ rfl
  have c23 := HX1.out.cell 3 _ rfl
  have d0 := HX2.out.2.1
  have d1 := HX2.out.2.2
  have e0 := HX3.out.cell 0 _ rfl
  have e1 := HX3.out.cell 1 _ rfl
  have e2 := HX3.out.cell 2 _ rfl
  have e3 := HX3.out.cell 3 _ rfl
  have f0 := HX3.out.fz 0
  have f1 := HX3.out.fz 1
  have f2 := HX3.out.fz 2
  have f3 := HX3.out.fz 3
  go_wp2_with fail
  refine (I1.out _).mono ?_; rintro e w4 ⟨rfl, hw4⟩
  rw [hw4]
  clear hw4 w4
  go_wp2_with fail
  refine (I2.out _).mono ?_; rintro e w4 ⟨rfl, hw4⟩
  rw [hw4]
  clear hw4 w4
  go_wp2_with fail
  refine CP.out.mono ?_; rintro e w4 ⟨rfl, hb4⟩
  have HX1 := Lib.hid (HX1.out.below hb4)
  have HX2 := Lib.hid (HX2.out.below hb4 HX2.out.1)
  have HX3 := Lib.hid (HX3.out.below hb4)
  have HBE := Lib.hid (bcall HB3.out hb4)
  have HW := Lib.hid hb4
  clear hb4 CP c20 c21 c22 c23 d0 d1 e0 e1 e2 e3 f0 f1 f2 f3 HB3
  have c20 := HX1.out.cell 0 _ rfl
  have c21 := HX1.out.cell 1 _ rfl
  have c22 := HX1.out.cell 2 _ rfl
  have c23 := HX1.out.cell 3 _ rfl
  have d0 := HX2.out.2.1
  have d1 := HX2.out.2.2
  have e0 := HX3.out.cell 0 _ rfl
  have e1 := HX3.out.cell 1 _ rfl
  have e2 := HX3.out.cell 2 _ rfl
  have e3 := HX3.out.cell 3 _ rfl
  have f0 := HX3.out.fz 0
  have f1 := HX3.out.fz 1
  have f2 := HX3.out.fz 2
  have f3 := HX3.out.fz 3
  go_wp2_with fail
  clear c20 c21 c22 c23 d0 d1 e0 e1 e2 e3 f0 f1 f2 f3
  have HW0 := HW
  go_loopw [8] (fun iv wr => ∃ k : Nat, low ≤ k ∧ k ≤ hi ∧ iv = .int .i64 (k : Int) ∧ Hid (Below w4.heap.size w4 wr) ∧ Hid (∀ r : Int, low ≤ r → r < k → h r ≠ none)) (fun i _ => hi - vN1 i)
  case atStart => exact ⟨low, Nat.le_refl _, hlh, rfl, Lib.hid (brefl w4), Lib.hid (fun r h1 h2 => by omega)⟩
  case round =>
    obtain ⟨k, hk0, hk, rfl, HWR, HF⟩ := hrel
    have HX1 := Lib.hid (HX1.out.below HWR.out)
    have HX2 := Lib.hid (HX2.out.below HWR.out HX2.out.1)
    have HX3 := Lib.hid (HX3.out.below HWR.out)
    have HBE := Lib.hid (bcall HBE.out HWR.out)
    have c20 := HX1.out.cell 0 _ rfl
    have c21 := HX1.out.cell 1 _ rfl
    have c22 := HX1.out.cell 2 _ rfl
    have c23 := HX1.out.cell 3 _ rfl
    have d0 := HX2.out.2.1
    have d1 := HX2.out.2.2
    have e0 := HX3.out.cell 0 _ rfl
    have e1 := HX3.out.cell 1 _ rfl
    have e2 := HX3.out.cell 2 _ rfl
    have e3 := HX3.out.cell 3 _ rfl
    have f0 := HX3.out.fz 0
    have f1 := HX3.out.fz 1
    have f2 := HX3.out.fz 2
    have f3 := HX3.out.fz 3
    by_cases hlt : k < hi
    · have u1 : decide ((k : Int) < (hi : Int)) = true := decide_eq_true (by omega)
      have hkw : (Lit.int .i64 (k : Int)).wf = true := wf_in (by omega)
      have CA := Lib.hid (rat_any (low : Int) (many : Int) pp pl n n cp cl L (k : Int) wr HN.out (HI.out _ HBE.out))
      rcases idx_cases L (k : Int) with ⟨hix, hnx⟩ | ⟨j, y, hix, hjy⟩
      · rw [hix] at CA
        have t3 : decide ((-1 : Int) < 0) = true := rfl
        have HH := Lib.hid (show h (k : Int) = none from by
          cases e : h (k : Int) with
          | none => rfl
          | some y => exact absurd rfl (hnx _ ((HR.out.mem _ y).1 e)))
        clear hix hnx
        go_wp2_with fail
        refine CA.out.mono ?_; rintro e w5 ⟨rfl, hb5⟩
        have HX1 := Lib.hid (HX1.out.below hb5)
        have HX2 := Lib.hid (HX2.out.below hb5 HX2.out.1)
        have HX3 := Lib.hid (HX3.out.below hb5)
        have HBE := Lib.hid (bcall HBE.out hb5)
        have HWL := Lib.hid (Nat.le_trans HWR.out.size hb5.size)
        clear CA hb5 HWR c20 c21 c22 c23 d0 d1 e0 e1 e2 e3 f0 f1 f2 f3
        have hszl : B + 3 ≤ w5.heap.size := by
          have h1 := HS3.out
          have h2 := HW0.out.size
          have h3 := HWL.out
          omega
        have HJ5 := Lib.hid (HJ.out _ HBE.out)
        have HI5 := Lib.hid (fun W (hW : Below w5.heap.size w5 W) => HI.out _ (bcall HBE.out hW))
        have g3 := HX1.out.cell 3 _ rfl
        have HNL : Hid (n = (L.map Prod.snd).length) := Lib.hid (by rw [List.length_map]; exact HN.out)
        have HNP : Hid (n = (L.map Prod.fst).length) := Lib.hid (by rw [List.length_map]; exact HN.out)
        have hn30 : n ≤ 30 := by rw [HN.out]; exact hl30
        have hpl : ((L.map Prod.snd) ++ [(⟨a, c⟩ : Plc)]).length = n + 1 := by rw [List.length_append, ← HNL.out]; rfl
        have HPL := Lib.hid hpl
        clear hpl
        go_wp2_with (first
          | (at_builtin
             refine wp_appC ty rfl (.tmp 43) (.tmp 45) rfl (B + 3) (.slice none 0 0) [] pl cl n (L.map Prod.snd) rfl (OC.nil lay 24 _ _) rfl HNL.out HJ5.out (by rw [← HNL.out]; simp; omega) hszl ?_
             intro v6 w6 hown6 hg6 hat6
             have hown6' : OC lay 24 w6 (B + 3) v6 (L.map Prod.snd) := by simpa using hown6
             have nb : Below w5.heap.size w5 w6 := ⟨hg6.os, hg6.tape, hg6.output, hg6.size, fun j hj => hg6.block j hj (by simp [Value.ownBlock])⟩
             have HO6 := Lib.hid hown6'
             have hx26 := HX2.out.below nb HX2.out.1
             have d0 := hx26.2.1
             have d1 := hx26.2.2
             have HX16 := Lib.hid (HX1.out.below nb)
             have HX36 := Lib.hid (HX3.out.below nb)
             have HBE6 := Lib.hid (bcall HBE.out nb)
             have hsz6 : B + 3 ≤ w6.heap.size := Nat.le_trans hszl nb.size
             clear hown6 hown6' hg6 hat6 nb hx26)
          | (at_builtin
             refine wp_appC ty rfl (.tmp 47) (.tmp 49) rfl (B + 3) v6 (L.map Prod.snd) (some ⟨w6.heap.size, 0, none⟩) 1 1 [⟨a, c⟩] rfl (HO6.out.alloc _) rfl rfl (CI.one lay w6 ⟨a, c⟩ 24) (by rw [← HNL.out]; simp; omega) (Nat.le_trans hsz6 (by simp)) ?_
             intro v7 w7 hown7 hg7 hat7
             have HX17 := Lib.hid ((HX16.out.alloc (.cells #[.int .i64 a, .int .i64 c] 24)).more hg7 (fun e => by have := (HO6.out.lt B e.symm).1; omega))
             have HX37 := Lib.hid ((HX36.out.alloc (.cells #[.int .i64 a, .int .i64 c] 24)).more hg7 (fun e => by have := (HO6.out.lt (B + 1 + 1) e.symm).1; omega))
             have HBE7 := Lib.hid (below_oneC HBE6.out (Nat.le_trans (by have := HBB.out; omega) hsz6) (.cells #[.int .i64 a, .int .i64 c] 24) (HO6.out.mono (base' := w.heap.size) (by have := HBB.out; omega)) hg7)
             have hsz7 : B + 3 ≤ w7.heap.size := Nat.le_trans (Nat.le_trans hsz6 (by simp)) hg7.size
             have HO7 := Lib.hid hown7
             obtain ⟨p7, c7, e7, hI7, hA7⟩ := oc_read hown7
             rw [HPL.out] at e7
             subst e7
             have g37 := HX17.out.cell 3 _ rfl
             have g27 := HX17.out.cell 2 _ rfl
             have k37 := HX17.out.fz 3
             clear hown7 hg7 hat7 hI7 hA7))
        have HX18 := Lib.hid (HX17.out.set 3 (.slice p7 (n + 1) c7))
        have HX38 := Lib.hid (HX37.out.other B 3 (.slice p7 (n + 1) c7) (by omega))
        have HO8 := Lib.hid (oc_set HO7.out B 3 (.slice p7 (n + 1) c7) (by omega))
        have HBE8 := Lib.hid (below_set HBE7.out B 3 (.slice p7 (n + 1) c7) (by have := HBB.out; omega))
        have hsz8 : B + 3 ≤ (w7.setCell ⟨B, 3, none⟩ (.slice p7 (n + 1) c7)).heap.size := by rw [show (w7.setCell ⟨B, 3, none⟩ (.slice p7 (n + 1) c7)).heap.size = w7.heap.size by simp [World.setCell]]; exact hsz7
        generalize w7.setCell ⟨B, 3, none⟩ (.slice p7 (n + 1) c7) = w8 at HX18 HX38 HO8 HBE8 hsz8 ⊢
        clear g3 d0 d1 g37 k37 g27 HX17 HX37 HO7 HBE7 HX16 HX36 HBE6 HO6 hsz7 hsz6 hszl HJ5
        have CB := Lib.hid (behind_own pp cp n (L.map Prod.fst) (k : Int) w8 HNP.out (HI.out _ HBE8.out) (by rw [← HNP.out]; omega) hkw)
        refine CB.out.mono ?_; rintro e w9 ⟨g9, c9, rfl, ho9, hg9, hb9⟩
        have HX19 := Lib.hid (HX18.out.below hb9)
        have HX39 := Lib.hid (HX38.out.below hb9)
        have HO9 := Lib.hid (HO8.out.below hb9)
        have HBE9 := Lib.hid (bcall HBE8.out hb9)
        have HP9 := Lib.hid ho9
        have g20 := HX19.out.cell 0 _ rfl
        have g21 := HX19.out.cell 1 _ rfl
        have g29 := HX19.out.cell 2 _ rfl
        have g23 := HX19.out.cell 3 _ rfl
        have k29 := HX19.out.fz 2
        have e0 := HX39.out.cell 0 _ rfl
        have e1 := HX39.out.cell 1 _ rfl
        have e2 := HX39.out.cell 2 _ rfl
        have e3 := HX39.out.cell 3 _ rfl
        have f0 := HX39.out.fz 0
        have f1 := HX39.out.fz 1
        have f2 := HX39.out.fz 2
        have f3 := HX39.out.fz 3
        clear CB HX18 HX38 HO8 HBE8 ho9 hb9
        go_wp2_with fail
        have hBw : w.heap.size = B := HBB.out
        have HE := Lib.hid (((((HX39.out.other B 2 (.slice (some ⟨g9, 0, none⟩) (n + 1) c9) (by omega)).set 0 (.int .i64 (low : Int))).set 1 (.int .i64 (many : Int))).set 2 (.slice (some ⟨g9, 0, none⟩) (n + 1) c9)).set 3 (.slice p7 (n + 1) c7))
        have hbe := below_set (below_set (below_set (below_set (below_set HBE9.out B 2 (.slice (some ⟨g9, 0, none⟩) (n + 1) c9) (by omega)) (B + 1 + 1) 0 (.int .i64 (low : Int)) (by omega)) (B + 1 + 1) 1 (.int .i64 (many : Int)) (by omega)) (B + 1 + 1) 2 (.slice (some ⟨g9, 0, none⟩) (n + 1) c9) (by omega)) (B + 1 + 1) 3 (.slice p7 (n + 1) c7) (by omega)
        have hoc := oc_set (oc_set (oc_set (oc_set (oc_set HO9.out B 2 (.slice (some ⟨g9, 0, none⟩) (n + 1) c9) (by omega)) (B + 1 + 1) 0 (.int .i64 (low : Int)) (by omega)) (B + 1 + 1) 1 (.int .i64 (many : Int)) (by omega)) (B + 1 + 1) 2 (.slice (some ⟨g9, 0, none⟩) (n + 1) c9) (by omega)) (B + 1 + 1) 3 (.slice p7 (n + 1) c7) (by omega)
        have how := ow_set (ow_set (ow_set (ow_set (ow_set HP9.out B 2 (.slice (some ⟨g9, 0, none⟩) (n + 1) c9) (by omega)) (B + 1 + 1) 0 (.int .i64 (low : Int)) (by omega)) (B + 1 + 1) 1 (.int .i64 (many : Int)) (by omega)) (B + 1 + 1) 2 (.slice (some ⟨g9, 0, none⟩) (n + 1) c9) (by omega)) (B + 1 + 1) 3 (.slice p7 (n + 1) c7) (by omega)
        have hk1 : L.map Prod.snd ++ [(⟨a, c⟩ : Plc)] = (L ++ [((k : Int), (⟨a, c⟩ : Plc))]).map Prod.snd := by rw [List.map_append]; rfl
        have hk2 : L.map Prod.fst ++ [(k : Int)] = (L ++ [((k : Int), (⟨a, c⟩ : Plc))]).map Prod.fst := by rw [List.map_append]; rfl
        rw [hk1] at hoc
        rw [hk2] at how
        obtain ⟨q1, d1, j1, hI1, hA1⟩ := oc_read hoc
        injection j1 with j1 j2 j3
        subst j1; subst j3
        obtain ⟨q2, d2, j4, hI2, hA2⟩ := own_read how
        injection j4 with j4 j5 j6
        subst j4; subst j6
        have hR2 : OutR low many h ⟨a, c⟩ (k : Int) 0 (upd h (k : Int) (some ⟨a, c⟩)) := .inr (.inr (.inl ⟨HG.out, HNO.out, ⟨by omega, by have := HHI.out; omega⟩, HH.out, HF.out, rfl, rfl⟩))
        exact bodyPost_ret (results_four2 rfl Tryd.isAgg45 Tryd.sizeOf45 _ _ (B + 1 + 1) rfl _ _ _ _ (HE.out.cell 0 _ rfl) (HE.out.cell 1 _ rfl) (HE.out.cell 2 _ rfl) (HE.out.cell 3 _ rfl)) rfl
          ⟨some ⟨g9, 0, none⟩, n + 1, c9, p7, c7, L ++ [((k : Int), ⟨a, c⟩)], (k : Int), 0, _, rfl, hR2, HR.out.put HH.out ⟨a, c⟩, ⟨by rw [List.length_append, ← HN.out]; rfl, hI2, hI1, fun x e => .inr ⟨by have := (hA2 x e).1; omega, (hA2 x e).2.1⟩, fun x e => .inr ⟨by have := (hA1 x e).1; omega, (hA1 x e).2⟩⟩, hbe⟩
      · rw [hix] at CA
        have t3 : decide ((j : Int) < 0) = false := decide_eq_false (by omega)
        have HH := Lib.hid (show h (k : Int) ≠ none from by rw [(HR.out.mem _ y).2 (List.mem_of_getElem? hjy)]; simp)
        clear hix hjy
        go_wp2_with fail
        refine CA.out.mono ?_; rintro e w5 ⟨rfl, hb5⟩
        have HWR5 := Lib.hid (bcall HWR.out hb5)
        clear CA hb5 c20 c21 c22 c23 d0 d1 e0 e1 e2 e3 f0 f1 f2 f3
        go_wp2_with fail
        go_roundw
        case rel => exact ⟨k + 1, by omega, by omega, by first | rfl | go_num, HWR5, Lib.hid (fun r h1 h2 => by
          by_cases e : r = k
          · rw [e]; exact HH.out
          · exact HF.out r h1 (by omega))⟩
        case measure => simp [vN1]; omega
    · obtain rfl : k = hi := by omega
      have u1 : decide ((k : Int) < (k : Int)) = false := decide_eq_false (by omega)
      go_wp2_with fail
      have HE := Lib.hid ((((HX3.out.set 0 (.int .i64 (low : Int))).set 1 (.int .i64 (many : Int))).set 2 (.slice pp n cp)).set 3 (.slice pl n cl))
      have hbe := below_set (below_set (below_set (below_set HBE.out (B + 1 + 1) 0 (.int .i64 (low : Int)) (by have := HBB.out; omega)) (B + 1 + 1) 1 (.int .i64 (many : Int)) (by have := HBB.out; omega)) (B + 1 + 1) 2 (.slice pp n cp) (by have := HBB.out; omega)) (B + 1 + 1) 3 (.slice pl n cl) (by have := HBB.out; omega)
      exact bodyPost_ret (results_four2 rfl Tryd.isAgg45 Tryd.sizeOf45 _ _ (B + 1 + 1) rfl _ _ _ _ (HE.out.cell 0 _ rfl) (HE.out.cell 1 _ rfl) (HE.out.cell 2 _ rfl) (HE.out.cell 3 _ rfl)) rfl
        ⟨pp, n, cp, pl, cl, L, 0, 4, h, rfl, .inr (.inr (.inr ⟨HG.out, HNO.out, fun r h1 h2 => HF.out r h1 (by rw [HHI.out]; omega), rfl, rfl, rfl⟩)), HR.out, ⟨HN.out, HI.out _ hbe, HJ.out _ hbe, fun a e => .inl e, fun a e => .inl e⟩, hbe⟩
theorem rout_any (low many : Nat) (pp pl : Option Addr) (n cp cl : Nat) (L : List En) (h : Int → Option Plc) (a c : Int) (w : World) (R : RL h L) (H : Tb low many h) (hn : n = L.length) (hi : Ints w pp cp (L.map Prod.fst)) (hj : CI lay w pl cl (L.map Prod.snd)) :
    Calls Tryd.prog 16 #[.agg #[.int .i64 (low : Int), .int .i64 (many : Int), .slice pp n cp, .slice pl n cl], .agg #[.int .i64 a, .int .i64 c]] w fun e w' => RoutP low many pp pl h ⟨a, c⟩ w e w' := by
  by_cases hx : good ⟨a, c⟩
  · by_cases hq : ∃ q, h q = some ⟨a, c⟩
    · obtain ⟨q, hq⟩ := hq
      exact rout_has low many pp pl n cp cl L h a c w R H hn hi hj hx q hq
    · exact rout_none low many pp pl n cp cl L h a c w R H hn hi hj hx (fun q e => hq ⟨q, e⟩)
  · exact rout_bad low many pp pl n cp cl L h a c w R H hn hi hj hx
end Go.Proofs.YtlojehakifagbaaDoor.Nat_
