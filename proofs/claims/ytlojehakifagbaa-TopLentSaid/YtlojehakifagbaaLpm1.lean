/- Package lpm: how a table lies in memory; New, compare, the closures, last. No statement is proved here. -/
import Derived.Test.YtlojehakifagbaaCmp
import Derived.Test.YtlojehakifagbaaCidrHas
import Derived.Test.YtlojehakifagbaaRoute
import Derived.Test.YtlojehakifagbaaTabMath
namespace Go.Proofs.Ytlojehakifagbaa.Lpm
open Go.ChangeShapes Go.WideShapes Go.ChangeAt Go.RowKit Go.Sort Go.Proofs.Ytlojehakifagbaa.Kit Go.Proofs.Ytlojehakifagbaa.App Go.Proofs.Ytlojehakifagbaa.Cells Go.Proofs.Ytlojehakifagbaa.Cidr Go.Proofs.Ytlojehakifagbaa.CidrMath Go.Proofs.Ytlojehakifagbaa.RouteMath Go.Proofs.Ytlojehakifagbaa.Route
set_option linter.unusedVariables false
set_option maxRecDepth 20000

theorem lgr {base : Nat} {a b c : World} (h : Below base a b) (hb : base ≤ b.heap.size) (g : Gr b c) : Below base a c := h.trans (g.below.mono hb)
theorem cell_in {X : World} {p : Addr} {v : Value} (hc : X.cell? p = some v) : p.block < X.heap.size := by
  rcases Nat.lt_or_ge p.block X.heap.size with hlt | hge
  · exact hlt
  · unfold World.cell? at hc; rw [Array.getElem?_eq_none hge] at hc; simp at hc
/-- The cells of a table: its routes, what stands behind them, and how many they are. -/
def cellsT (l rest : List Rt) : List Value := layR.all (l ++ rest) ++ [.int .i64 l.length]
/-- A table in its block. -/
def Tab (w : World) (g : Nat) (l : List Rt) : Prop := ∃ rest : List Rt, l.length + rest.length = 32 ∧ w.heap[g]? = some (.cells (cellsT l rest).toArray 61)
theorem Tab.lt {w : World} {g : Nat} {l : List Rt} (h : Tab w g l) : g < w.heap.size := by
  obtain ⟨rest, _, hh⟩ := h
  exact (Array.getElem?_eq_some_iff.1 hh).1
theorem Tab.len {w : World} {g : Nat} {l : List Rt} (h : Tab w g l) : l.length ≤ 32 := by
  obtain ⟨rest, h1, _⟩ := h
  omega
theorem Tab.keep {w w' : World} {g : Nat} {l : List Rt} (h : Tab w g l) (hk : w'.heap[g]? = w.heap[g]?) : Tab w' g l := by
  obtain ⟨rest, h1, h2⟩ := h
  exact ⟨rest, h1, hk.trans h2⟩
theorem Tab.below {w w' : World} {g B : Nat} {l : List Rt} (h : Tab w g l) (hb : Below B w w') (hg : g < B) : Tab w' g l := h.keep (hb.block g hg)
theorem Tab.grown {w w' : World} {g : Nat} {l : List Rt} {row : Option Nat} (h : Tab w g l) (hb : w.grownBy w' row) (hg : some g ≠ row) : Tab w' g l := h.keep (hb.block g h.lt hg)
theorem Tab.gr {w w' : World} {g : Nat} {l : List Rt} (h : Tab w g l) (hb : Gr w w') : Tab w' g l := h.below hb.below h.lt
theorem cells_len (l rest : List Rt) (h : l.length + rest.length = 32) : (cellsT l rest).length = 97 := by
  unfold cellsT
  rw [List.length_append, layR.all_len, List.length_append, h]
  rfl
theorem Tab.count {w : World} {g : Nat} {l : List Rt} (h : Tab w g l) : w.cell? ⟨g, 96, none⟩ = some (.int .i64 l.length) := by
  obtain ⟨rest, h1, h2⟩ := h
  unfold World.cell?
  rw [h2]
  show (cellsT l rest).toArray[96]? = _
  rw [List.getElem?_toArray]
  unfold cellsT
  rw [List.getElem?_append_right (by rw [layR.all_len, List.length_append, h1]; decide), layR.all_len, List.length_append, h1]
  rfl
theorem Tab.cell {w : World} {g : Nat} {l : List Rt} (h : Tab w g l) {k : Nat} {x : Rt} (hx : l[k]? = some x) {i : Nat} {v : Value} (hv : (layR.enc x)[i]? = some v) : w.cell? ⟨g, k * 3 + i, none⟩ = some v := by
  obtain ⟨rest, h1, h2⟩ := h
  have hk := lt_len hx
  have hi : i < 3 := by
    rcases Nat.lt_or_ge i 3 with h | h
    · exact h
    · rw [List.getElem?_eq_none (by rw [layR.len]; exact h)] at hv; cases hv
  unfold World.cell?
  rw [h2]
  show (cellsT l rest).toArray[k * 3 + i]? = _
  rw [List.getElem?_toArray]
  unfold cellsT
  rw [List.getElem?_append_left (by rw [layR.all_len, List.length_append]; show k * 3 + i < (l.length + rest.length) * 3; omega)]
  have := layR.all_get (l ++ rest) k x (by rw [List.getElem?_append_left hk]; exact hx) i hi
  exact this.trans hv
theorem Tab.adr {w : World} {g : Nat} {l : List Rt} (h : Tab w g l) {k : Nat} {x : Rt} (hx : l[k]? = some x) : w.cell? ⟨g, k * 3, none⟩ = some (.int .i64 x.adr) := h.cell hx (i := 0) rfl
theorem Tab.plen {w : World} {g : Nat} {l : List Rt} (h : Tab w g l) {k : Nat} {x : Rt} (hx : l[k]? = some x) : w.cell? ⟨g, k * 3 + 1, none⟩ = some (.int .i64 x.len) := h.cell hx (i := 1) rfl
theorem Tab.hop {w : World} {g : Nat} {l : List Rt} (h : Tab w g l) {k : Nat} {x : Rt} (hx : l[k]? = some x) : w.cell? ⟨g, k * 3 + 2, none⟩ = some (.int .i64 x.hop) := h.cell hx (i := 2) rfl
theorem Tab.frozen {w : World} {g : Nat} {l : List Rt} (h : Tab w g l) (j : Nat) : w.frozen? ⟨g, j, none⟩ = false := by
  obtain ⟨rest, h1, h2⟩ := h
  unfold World.frozen?
  rw [h2]
  simp
def noneT : List Rt := List.replicate 32 ⟨0, 0, 0⟩
theorem zero_info : (Try.prog.info? 61).map (fun i => i.zero) = some (some (.agg (cellsT [] noneT).toArray)) := by kernel_rfl
theorem zero_any (w : World) : (zeroValue 61).run Try.prog w = .ok (.agg (cellsT [] noneT).toArray) w := by
  obtain ⟨i, hi, hz⟩ := Option.map_eq_some_iff.1 zero_info
  simp only [zeroValue, typeInfo, Sem.run_bind, run_program, Result.andThen_ok, hi, hz, Sem.run_pure]
theorem fresh_tab (w : World) : Tab (w.alloc (.cells (cellsT [] noneT).toArray 61)) w.heap.size [] := ⟨noneT, by simp [noneT], alloc_new w _⟩
/-- New. -/
theorem new_any (w : World) : Calls Try.prog 6 #[] w fun e w' => e = .returned (.pointer (some ⟨w.heap.size, 0, none⟩)) ∧ Tab w' w.heap.size [] ∧ Below w.heap.size w w' := by
  have hz : ∀ W, (zeroValue 61).run Try.prog W = .ok (.agg (cellsT [] noneT).toArray) W := zero_any
  have hf := Lib.hid (fresh_tab w)
  generalize (cellsT [] noneT).toArray = Z at hz hf
  go_enter Try.func6, Try.ntmps6
  go_wp2_with fail
  go_ret
  exact ⟨rfl, hf.out, balloc (brefl w) _⟩

set_option maxHeartbeats 1000000 in
theorem compare_any2 (x y : Pfx) (W : World) (R : Int) (hR : R = cf x y) :
    Calls Try.prog 19 #[.agg #[.int .i64 x.adr, .int .i64 x.len], .agg #[.int .i64 y.adr, .int .i64 y.len]] W fun e w' => e = .returned (.int .i64 R) ∧ Gr W w' := by
  subst hR
  obtain ⟨x0, x1⟩ := x
  obtain ⟨y0, y1⟩ := y
  simp only
  have CC := Lib.hid (fun x y W' => compare_any x y W' _ rfl)
  have O := Lib.hid (fun g W' => or_any g (cmpI x0 y0) (cmpI x1 y1) W' _ rfl)
  show Calls _ _ _ _ fun e w' => e = .returned (.int .i64 (or2 (cmpI x0 y0) (cmpI x1 y1))) ∧ _
  generalize or2 (cmpI x0 y0) (cmpI x1 y1) = r at O ⊢
  have bx := (Box.new W ⟨x0, x1⟩ 34).below (balloc (brefl _) (.cells #[.int .i64 y0, .int .i64 y1] 34)) (by simp)
  have bx2 := Box.new (W.alloc (.cells #[.int .i64 x0, .int .i64 x1] 34)) ⟨y0, y1⟩ 34
  simp only [World.size_alloc] at bx bx2
  obtain ⟨bxl, c0, c1⟩ := bx
  obtain ⟨bxl2, c2, c3⟩ := bx2
  simp only at c0 c1 c2 c3
  go_enter Try.func19, Try.ntmps19
  go_wp2_with fail
  have hG : Gr W ((W.alloc (.cells #[.int .i64 x0, .int .i64 x1] 34)).alloc (.cells #[.int .i64 y0, .int .i64 y1] 34)) := ⟨0, _, by rw [alloc_eq_grow, alloc_eq_grow, grow_grow]; rfl⟩
  clear bxl bxl2
  generalize (W.alloc (.cells #[.int .i64 x0, .int .i64 x1] 34)).alloc (.cells #[.int .i64 y0, .int .i64 y1] 34) = w0 at c0 c1 c2 c3 hG ⊢
  generalize W.heap.size = n0 at c0 c1 c2 c3 ⊢
  have HG := Lib.hid hG
  clear hG
  go_region_held3 (fun W' => W'.cell? ⟨n0, 0, none⟩ = some (.int .i64 x0) ∧ W'.cell? ⟨n0, 1, none⟩ = some (.int .i64 x1) ∧ W'.cell? ⟨n0 + 1, 0, none⟩ = some (.int .i64 y0) ∧ W'.cell? ⟨n0 + 1, 1, none⟩ = some (.int .i64 y1))
    (first
      | exact ⟨c0, c1, c2, c3⟩
      | go_keep)
    (first
      | (go_at_call 28; refine (O.out _ _ (new0 _ _ _ _) (new1 _ _ _ _)).mono ?_; rintro e w3 ⟨rfl, rfl⟩)
      | (go_at_call 29; refine (CC.out _ _ _).mono ?_; rintro e w1 ⟨rfl, rfl⟩))
  go_wp2_with fail
  go_ret
  exact ⟨rfl, HG.out.trans ⟨1, _, by rw [alloc_eq_grow]; rfl⟩⟩
theorem gr_alloc (w : World) (o : Obj) : Gr w (w.alloc o) := ⟨0, _, by rw [alloc_eq_grow]; rfl⟩

/-- What Set asks of a prefix: does it stand no later than the route's? -/
def fLe (p : Pfx) (q : Pfx) : Bool := decide (cf q p ≤ 0)
theorem fLe_iff (p q : Pfx) : fLe p q = true ↔ ¬ Lt p q := by
  unfold fLe cf or2 Lt
  rw [decide_eq_true_iff]
  have h1 := cmpI_neg q.adr p.adr
  have h2 := cmpI_zero q.adr p.adr
  have h3 := cmpI_neg q.len p.len
  have h4 := cmpI_zero q.len p.len
  split <;> omega
theorem setC_any (x : Pfx) (r : Rt) (g : Nat) (W : World) (hb : BoxR W g r) (R : Bool) (hR : R = fLe (key r) x) :
    Calls Try.prog 18 #[.agg #[.int .i64 x.adr, .int .i64 x.len], .pointer (some ⟨g, 0, none⟩)] W fun e w' => e = .returned (.bool R) ∧ Gr W w' := by
  obtain ⟨a, b⟩ := x
  obtain ⟨ra, rb, rh⟩ := r
  unfold fLe key at hR
  simp only at hR ⊢
  have CO := Lib.hid (fun W' => compare_any2 ⟨a, b⟩ ⟨ra, rb⟩ W' _ rfl)
  generalize cf ⟨a, b⟩ ⟨ra, rb⟩ = c at hR CO
  simp only at CO
  have b1 := hb.below (balloc (brefl W) (.cells #[.int .i64 a, .int .i64 b] 34)) hb.1
  obtain ⟨_, c0, c1, _⟩ := b1
  simp only at c0 c1
  subst hR
  go_enter Try.func18, Try.ntmps18
  go_wp2_with fail
  refine (CO.out _).mono ?_; rintro e w1 ⟨rfl, hg1⟩
  have HG := Lib.hid ((gr_alloc W _).trans hg1)
  clear hg1
  go_wp2_with fail
  go_ret
  exact ⟨rfl, HG.out⟩
/-- What Find asks of a prefix. -/
def fHas (a : Int) (q : Pfx) : Bool := decide (q.adr ≤ a) && decide (a < q.adr + siz q)
theorem fHas_iff (a : Nat) (q : Pfx) : fHas a q = true ↔ has q a := by
  unfold fHas has
  rw [Bool.and_eq_true, decide_eq_true_iff, decide_eq_true_iff]
theorem findC_any (x : Pfx) (a : Int) (g : Nat) (W : World) (hc : W.cell? ⟨g, 0, none⟩ = some (.int .i64 a)) (hx : CidrMath.Good x) (ha : 0 ≤ a ∧ a ≤ 65535) (R : Bool) (hR : R = fHas a x) :
    Calls Try.prog 21 #[.agg #[.int .i64 x.adr, .int .i64 x.len], .pointer (some ⟨g, 0, none⟩)] W fun e w' => e = .returned (.bool R) ∧ Gr W w' := by
  have HS := Lib.hid (fun W' => has_good x a W' hx ha R (by rw [hR]; unfold fHas; rw [Bool.and_eq_true, decide_eq_true_iff, decide_eq_true_iff]))
  obtain ⟨x0, x1⟩ := x
  unfold Cidr.val at HS
  simp only at HS ⊢
  have c0 : (W.alloc (.cells #[.int .i64 x0, .int .i64 x1] 34)).cell? ⟨g, 0, none⟩ = some (.int .i64 a) := (World.cell?_alloc_lt W _ _ (cell_in hc)).trans hc
  clear hR hx ha
  go_enter Try.func21, Try.ntmps21
  go_wp2_with fail
  refine (HS.out _).mono ?_; rintro e w1 ⟨rfl, hg1⟩
  have HG := Lib.hid ((gr_alloc W _).trans hg1)
  clear hg1
  go_wp2_with fail
  go_ret
  exact ⟨rfl, HG.out⟩

set_option maxHeartbeats 1000000 in
theorem last_set (g n : Nat) (l : List Rt) (w : World) (hn : n = l.length) (hT : Tab w g l) (cv : Value) (f : Pfx → Bool)
    (hf : ∀ x ∈ l, ∀ W, Below w.heap.size w W → Calls Try.prog 18 #[.agg #[.int .i64 x.adr, .int .i64 x.len], cv] W fun e w' => e = .returned (.bool (f (key x))) ∧ Gr W w') :
    Calls Try.prog 17 #[.pointer (some ⟨g, 0, none⟩), .func (.func 18) #[] #[cv]] w fun e w' => ∃ z : Int, e = .returned (.int .i64 z) ∧ LastAt f l z ∧ -1 ≤ z ∧ z < n ∧ Below w.heap.size w w' := by
  have h32 : n ≤ 32 := by rw [hn]; exact hT.len
  have c96 := hT.count
  rw [← hn] at c96
  have HF := Lib.hid hf
  have HTt := Lib.hid (fun W (hb : Below w.heap.size w W) => hT.below hb hT.lt)
  have HN := Lib.hid hn
  have hw1 : IntKind.i64.wrap ((n : Int) - 1) = (n : Int) - 1 := by rw [IntKind.wrap_i64]; omega
  clear hf hT hn
  go_enter Try.func17, Try.ntmps17
  go_wp2_with fail
  go_loopw [5] (fun iv wr => ∃ k : Nat, k ≤ n ∧ iv = .int .i64 ((k : Int) - 1) ∧ Hid (∀ (j : Nat) (y : Rt), k ≤ j → l[j]? = some y → f (key y) = false) ∧ Below w.heap.size w wr) (fun i _ => (intOf i + 1).toNat)
  case atStart => exact ⟨n, Nat.le_refl _, rfl, fun j y hj hy => by have := lt_len hy; have := HN.out; omega, brefl w⟩
  case round =>
    obtain ⟨k, hk, rfl, H, hB⟩ := hrel
    by_cases hk0 : k = 0
    · subst hk0
      go_wp2_with fail
      go_ret
      refine ⟨-1, rfl, .inl ⟨rfl, fun x hx => ?_⟩, by omega, by omega, hB⟩
      obtain ⟨j, hj, e⟩ := List.getElem_of_mem hx
      exact H.out j x (Nat.zero_le _) (by rw [List.getElem?_eq_getElem hj, e])
    · obtain ⟨m, rfl⟩ : ∃ m, k = m + 1 := ⟨k - 1, by omega⟩
      have e1 : ((m + 1 : Nat) : Int) - 1 = (m : Int) := by omega
      rw [e1]
      obtain ⟨x, hx⟩ : ∃ x, l[m]? = some x := ⟨_, List.getElem?_eq_getElem (by have := HN.out; omega)⟩
      have T := HTt.out wr hB
      have x0 := T.adr hx
      have x1 := T.plen hx
      have C := Lib.hid (HF.out x (List.mem_of_getElem? hx))
      have HX := Lib.hid hx
      have hw2 : IntKind.i64.wrap ((m : Int) - 1) = (m : Int) - 1 := by rw [IntKind.wrap_i64]; omega
      have t0 : decide ((m : Int) ≥ 0) = true := decide_eq_true (by omega)
      clear T hx e1
      cases hv : f (key x) with
      | true =>
        have HV := Lib.hid hv
        rw [hv] at C
        clear hv
        go_wp2_with fail
        refine (C.out _ hB).mono ?_; rintro e w1 ⟨rfl, hg1⟩
        have hB1 : Below w.heap.size w w1 := lgr hB hB.size hg1
        clear hg1
        go_wp2_with fail
        go_ret
        exact ⟨m, rfl, .inr ⟨m, x, rfl, HX.out, HV.out, fun j y hj hy => H.out j y hj hy⟩, by omega, by omega, hB1⟩
      | false =>
        have HV := Lib.hid hv
        rw [hv] at C
        clear hv
        go_wp2_with fail
        refine (C.out _ hB).mono ?_; rintro e w1 ⟨rfl, hg1⟩
        have hB1 : Below w.heap.size w w1 := lgr hB hB.size hg1
        clear hg1
        go_wp2_with fail
        go_roundw
        case rel => exact ⟨m, by omega, rfl, fun j y hj hy => by
          rcases Nat.lt_or_ge m j with h | h
          · exact H.out j y h hy
          · have : j = m := by omega
            subst this
            rw [HX.out] at hy
            rw [← Option.some.inj hy]; exact HV.out, hB1⟩
        case measure => simp [intOf]
set_option maxHeartbeats 1000000 in
theorem last_find (g n : Nat) (l : List Rt) (w : World) (hn : n = l.length) (hT : Tab w g l) (cv : Value) (f : Pfx → Bool)
    (hf : ∀ x ∈ l, ∀ W, Below w.heap.size w W → Calls Try.prog 21 #[.agg #[.int .i64 x.adr, .int .i64 x.len], cv] W fun e w' => e = .returned (.bool (f (key x))) ∧ Gr W w') :
    Calls Try.prog 17 #[.pointer (some ⟨g, 0, none⟩), .func (.func 21) #[] #[cv]] w fun e w' => ∃ z : Int, e = .returned (.int .i64 z) ∧ LastAt f l z ∧ -1 ≤ z ∧ z < n ∧ Below w.heap.size w w' := by
  have h32 : n ≤ 32 := by rw [hn]; exact hT.len
  have c96 := hT.count
  rw [← hn] at c96
  have HF := Lib.hid hf
  have HTt := Lib.hid (fun W (hb : Below w.heap.size w W) => hT.below hb hT.lt)
  have HN := Lib.hid hn
  have hw1 : IntKind.i64.wrap ((n : Int) - 1) = (n : Int) - 1 := by rw [IntKind.wrap_i64]; omega
  clear hf hT hn
  go_enter Try.func17, Try.ntmps17
  go_wp2_with fail
  go_loopw [5] (fun iv wr => ∃ k : Nat, k ≤ n ∧ iv = .int .i64 ((k : Int) - 1) ∧ Hid (∀ (j : Nat) (y : Rt), k ≤ j → l[j]? = some y → f (key y) = false) ∧ Below w.heap.size w wr) (fun i _ => (intOf i + 1).toNat)
  case atStart => exact ⟨n, Nat.le_refl _, rfl, fun j y hj hy => by have := lt_len hy; have := HN.out; omega, brefl w⟩
  case round =>
    obtain ⟨k, hk, rfl, H, hB⟩ := hrel
    by_cases hk0 : k = 0
    · subst hk0
      go_wp2_with fail
      go_ret
      refine ⟨-1, rfl, .inl ⟨rfl, fun x hx => ?_⟩, by omega, by omega, hB⟩
      obtain ⟨j, hj, e⟩ := List.getElem_of_mem hx
      exact H.out j x (Nat.zero_le _) (by rw [List.getElem?_eq_getElem hj, e])
    · obtain ⟨m, rfl⟩ : ∃ m, k = m + 1 := ⟨k - 1, by omega⟩
      have e1 : ((m + 1 : Nat) : Int) - 1 = (m : Int) := by omega
      rw [e1]
      obtain ⟨x, hx⟩ : ∃ x, l[m]? = some x := ⟨_, List.getElem?_eq_getElem (by have := HN.out; omega)⟩
      have T := HTt.out wr hB
      have x0 := T.adr hx
      have x1 := T.plen hx
      have C := Lib.hid (HF.out x (List.mem_of_getElem? hx))
      have HX := Lib.hid hx
      have hw2 : IntKind.i64.wrap ((m : Int) - 1) = (m : Int) - 1 := by rw [IntKind.wrap_i64]; omega
      have t0 : decide ((m : Int) ≥ 0) = true := decide_eq_true (by omega)
      clear T hx e1
      cases hv : f (key x) with
      | true =>
        have HV := Lib.hid hv
        rw [hv] at C
        clear hv
        go_wp2_with fail
        refine (C.out _ hB).mono ?_; rintro e w1 ⟨rfl, hg1⟩
        have hB1 : Below w.heap.size w w1 := lgr hB hB.size hg1
        clear hg1
        go_wp2_with fail
        go_ret
        exact ⟨m, rfl, .inr ⟨m, x, rfl, HX.out, HV.out, fun j y hj hy => H.out j y hj hy⟩, by omega, by omega, hB1⟩
      | false =>
        have HV := Lib.hid hv
        rw [hv] at C
        clear hv
        go_wp2_with fail
        refine (C.out _ hB).mono ?_; rintro e w1 ⟨rfl, hg1⟩
        have hB1 : Below w.heap.size w w1 := lgr hB hB.size hg1
        clear hg1
        go_wp2_with fail
        go_roundw
        case rel => exact ⟨m, by omega, rfl, fun j y hj hy => by
          rcases Nat.lt_or_ge m j with h | h
          · exact H.out j y h hy
          · have : j = m := by omega
            subst this
            rw [HX.out] at hy
            rw [← Option.some.inj hy]; exact HV.out, hB1⟩
        case measure => simp [intOf]
end Go.Proofs.Ytlojehakifagbaa.Lpm
