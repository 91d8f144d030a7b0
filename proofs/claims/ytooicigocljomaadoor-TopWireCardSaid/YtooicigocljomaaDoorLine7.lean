/- The contract of Four of package line. No statement is proved here. -/
import Derived.Test.YtooicigocljomaaDoorLine6
import Derived.OwnWalkIn
import Derived.RangeFuncCalls
namespace Go.Proofs.YtooicigocljomaaDoor.Line
open Go.ChangeShapes Go.WideShapes Go.ChangeAt Go.RowKit Go.Shelf Go.Proofs.YtooicigocljomaaDoor.Kit Go.Proofs.YtooicigocljomaaDoor.App Go.Proofs.YtooicigocljomaaDoor.It Go.Proofs.YtooicigocljomaaDoor.LineMath
set_option linter.unusedVariables false
set_option maxRecDepth 100000
attribute [local go_sem] Oper.semAt_some

theorem wp_app_in {F : Fence} {N : Nat} {w : World} {ops : Array Oper} {rest : List Oper} {o : Oper} {a : Act} {Q : Exit → Act → World → Prop} (hgd : o.guard = none) (s x : Operand)
    (ho : o.op = .call { callee := .builtin .append, args := #[s, x], argTypes := #[22, 22] })
    (base : Nat) (v : Value) (xs : List Int) (p : Option Addr) (cap n : Nat) (l : List Int) (hs : a.eval s = v) (hown : OwnI w base v xs) (hx : a.eval x = .slice p n cap) (hn : n = l.length) (hl : Ints w p cap l)
    (hlen : xs.length + l.length ≤ 1000000000) (hbase : base ≤ w.heap.size)
    (h : ∀ v' w', OwnI w' base v' (xs ++ l) → w.grownBy w' v.ownBlock → (v'.ownBlock = v.ownBlock ∨ v'.ownBlock = some w.heap.size) → wpListIn F N Tryd.prog ops Q rest (a.put o.dst v') w') :
    wpListIn F N Tryd.prog ops Q (o :: rest) a w := by
  refine wpListIn_plain hgd fun _ hK => ?_
  obtain ⟨v', w', hrun, h2, h3, h4⟩ := run_app w o.type base v xs p cap l hown hl hlen hbase
  unfold Oper.wpIn
  rw [hn] at hx
  refine ⟨?_, ?_⟩
  · simp [Oper.about, ho, resolve, Target.leads, Sem.run_pure]
  · rw [Oper.semAt_plain F _ _ (by rw [ho]; intro c hc'; cases hc')]
    simp only [execOp, ho, resolve, invoke, builtin, Sem.run_bind, Sem.run_pure, Result.andThen_ok, List.map_toArray, List.map_cons, List.map_nil, hs, hx, hrun]
    exact hK _ _ (h v' w' h2 h3 h4)

theorem results_cell2 {fn : Func} {p q : Tmp} {ty tu : TypeId} {dy du : TypeDesc} (h : fn.results = #[.cell p ty, .cell q tu]) (hy : Tryd.prog.underlying ty = some dy) (hu : Tryd.prog.underlying tu = some du)
    (hy2 : (match dy with | .struct _ | .array _ _ => true | _ => false) = false) (hu2 : (match du with | .struct _ | .array _ _ => true | _ => false) = false) (tmps : Array Value) (w : World) (a b : Addr)
    (hp : tmps.getD p undef = .pointer (some a)) (hq : tmps.getD q undef = .pointer (some b)) (va vb : Value) (ha : w.cell? a = some va) (hb : w.cell? b = some vb) :
    (results fn tmps).run Tryd.prog w = .ok (.tuple #[va, vb]) w := by
  have e1 : (loadVar ty a).run Tryd.prog w = .ok va w := by
    unfold loadVar isAgg
    rw [Sem.run_bind, Sem.run_bind, run_underlying hy w]
    cases dy <;> simp_all
  have e2 : (loadVar tu b).run Tryd.prog w = .ok vb w := by
    unfold loadVar isAgg
    rw [Sem.run_bind, Sem.run_bind, run_underlying hu w]
    cases du <;> simp_all
  have hp' : tmps[p]?.getD undef = .pointer (some a) := by simpa using hp
  have hq' : tmps[q]?.getD undef = .pointer (some b) := by simpa using hq
  simp [results, h, hp', hq', asAddr, e1, e2, Sem.run_bind, Result.andThen]

set_option maxHeartbeats 1000000 in
theorem four_bad (p : Option Addr) (cap n : Nat) (l : List Int) (w : World) (hn : n = l.length) (h : Ints w p cap l) (m : Int) (hm2 : bad 200 1 l = m) (h0 : m ≠ 0) :
    Calls Tryd.prog 17 #[.slice p n cap] w fun e w' => e = .returned (.tuple #[.slice none 0 0, .iface 45 (.int .i64 m)]) ∧ Below w.heap.size w w' := by
  have C := Lib.hid (fun W (hh : Ints W p cap l) => checkBits_bad p cap n l W hn hh m hm2 h0)
  clear hm2 h0
  have hh := fun W (hb : Below w.heap.size w W) => h.below hb
  have HH := Lib.hid hh
  clear hh h hn
  refine (callsIn_wide (n := 0)).1 ?_
  refine callsIn_of_wp_marks Tryd.func17 rfl trivial ?_ rfl
  simp only [Tryd.ntmps17, List.size_toArray, List.length_cons, List.length_nil, Nat.reduceAdd, Nat.reduceSub, Array.replicate_succ, Array.replicate_zero, List.push_toArray, List.append_toArray, List.nil_append, List.cons_append]
  gi_wp2_with (refine ⟨trivial, rfl, ?_⟩; gi_at_call 28; refine (callsIn_wide.2 (C.out _ (HH.out _ (balloc (balloc (brefl w) _) _)))).mono ?_; rintro e w' ⟨rfl, rfl⟩)
  exact ⟨_, results_cell2 rfl Tryd.underlying22 Tryd.underlying26 rfl rfl _ _ _ _ rfl rfl _ _ (by go_simp) (by go_simp), rfl, balloc (balloc (brefl w) _) _⟩

set_option maxHeartbeats 1000000 in
theorem four_shape (p : Option Addr) (cap n : Nat) (l : List Int) (w : World) (hn : n = l.length) (h : Ints w p cap l) (h0 : bad 200 1 l = 0) (h5 : ¬ n % 5 = 0) :
    Calls Tryd.prog 17 #[.slice p n cap] w fun e w' => e = .returned (.tuple #[.slice none 0 0, .iface 45 (.int .i64 3)]) ∧ Below w.heap.size w w' := by
  have C := Lib.hid (fun W (hh : Ints W p cap l) => checkBits_good p cap n l W hn hh h0)
  have hl := (bad_zero h0).1
  have hh := fun W (hb : Below w.heap.size w W) => h.below hb
  have HH := Lib.hid hh
  have hlen : n ≤ 200 := by omega
  have t1 : ((n : Int) % 5 != 0) = true := by
    rw [bne_iff_ne]
    intro e
    exact h5 (by omega)
  clear hh h hn h0 hl
  refine (callsIn_wide (n := 0)).1 ?_
  refine callsIn_of_wp_marks Tryd.func17 rfl trivial ?_ rfl
  simp only [Tryd.ntmps17, List.size_toArray, List.length_cons, List.length_nil, Nat.reduceAdd, Nat.reduceSub, Array.replicate_succ, Array.replicate_zero, List.push_toArray, List.append_toArray, List.nil_append, List.cons_append]
  gi_wp2_with (refine ⟨trivial, rfl, ?_⟩; gi_at_call 28; refine (callsIn_wide.2 (C.out _ (HH.out _ (balloc (balloc (brefl w) _) _)))).mono ?_; rintro e w' ⟨rfl, rfl⟩)
  exact ⟨_, results_cell2 rfl Tryd.underlying22 Tryd.underlying26 rfl rfl _ _ _ _ rfl rfl _ _ (by go_simp) (by go_simp), rfl, balloc (balloc (brefl w) _) _⟩

theorem ownI_cells {w : World} {base : Nat} {v : Value} {l : List Int} (h : OwnI w base v l) : ∀ g, v.ownBlock = some g → ∃ o : Obj, w.heap[g]? = some o ∧ o.isCells = true := by
  obtain ⟨⟨hl, ⟨rfl, hn⟩ | ⟨g, cap, cur, rfl, hb, hh, hnc, hcm, hcs, ht⟩⟩, hw⟩ := h
  · intro g hg; simp [Value.ownBlock] at hg
  · intro g' hg
    simp [Value.ownBlock] at hg
    subst hg
    exact ⟨_, hh, rfl⟩
theorem ownI_kept {w w' : World} {base : Nat} {v : Value} {l : List Int} {row : Option Nat} (h : OwnI w base v l) (hg : w.grownBy w' row) (hr : ∀ r, row = some r → ∃ o : Obj, w.heap[r]? = some o ∧ o.isCells = false) : OwnI w' base v l := by
  refine h.more hg ?_
  cases hv : v.ownBlock with
  | none => exact .inl rfl
  | some g =>
    refine .inr (fun e => ?_)
    obtain ⟨o, h1, h2⟩ := ownI_cells h g hv
    obtain ⟨o', h3, h4⟩ := hr g e.symm
    rw [h1] at h3; cases h3; rw [h2] at h4; cases h4

/-- What a world holds between two rounds of Four. -/
structure FourI (r : Nat) (l : List Int) (base : Nat) (w : World) (k : Nat) (W : World) (v : Value) (out : List Int) : Prop where
  lc : W.cell? ⟨r + 1 + 1, 0, none⟩ = some v
  lf : W.frozen? ⟨r + 1 + 1, 0, none⟩ = false
  own : OwnI W base v out
  eq : four l k = some out
  rc : W.cell? ⟨r, 0, none⟩ = some (.slice none 0 0)
  rf : W.frozen? ⟨r, 0, none⟩ = false
  ec : W.cell? ⟨r + 1, 0, none⟩ = some .nilIface
  ef : W.frozen? ⟨r + 1, 0, none⟩ = false
  below : Below w.heap.size w W
theorem fourI_own (r : Nat) (l : List Int) (base : Nat) (w : World) (B : Nat) (hB : w.heap.size ≤ B) : OwnFrom B (fun k W => ∃ v out, FourI r l base w k W v out) := by
  rintro k A C row ⟨v, out, h⟩ hg hr
  have hr2 : ∀ x, row = some x → ∃ o : Obj, A.heap[x]? = some o ∧ o.isCells = false := fun x e => (hr x e).2
  exact ⟨v, out, cell_kept h.lc hg hr2, (frozen_kept h.lc hg hr2).trans h.lf, ownI_kept h.own hg hr2, h.eq, cell_kept h.rc hg hr2, (frozen_kept h.rc hg hr2).trans h.rf, cell_kept h.ec hg hr2, (frozen_kept h.ec hg hr2).trans h.ef, ownFrom_below (Nat.le_refl _) hB k A C row h.below hg hr⟩
/-- What a world holds where some five is no code. -/
def FourX (r : Nat) (w : World) (X : Option (List Int)) (W : World) : Prop :=
  X = none ∧ W.cell? ⟨r, 0, none⟩ = some (.slice none 0 0) ∧ W.cell? ⟨r + 1, 0, none⟩ = some (.iface 45 (.int .i64 2)) ∧ Below w.heap.size w W
theorem fourX_own (r : Nat) (w : World) (X : Option (List Int)) (B : Nat) (hB : w.heap.size ≤ B) : OwnFrom B (fun (_ : Nat) W => FourX r w X W) := by
  rintro k A C row ⟨hx, h1, h2, h3⟩ hg hr
  have hr2 : ∀ x, row = some x → ∃ o : Obj, A.heap[x]? = some o ∧ o.isCells = false := fun x e => (hr x e).2
  exact ⟨hx, cell_kept h1 hg hr2, cell_kept h2 hg hr2, ownFrom_below (Nat.le_refl _) hB k A C row h3 hg hr⟩
theorem keptD_below {Pr : Nat → Prop} {lo a b : Nat} {X Y : World} (h : Below X.heap.size X Y) : KeptD Pr lo a b X Y := ⟨h.size, fun k hk _ => h.block k hk⟩
theorem cell_lt' {X : World} {p : Addr} {v : Value} (hc : X.cell? p = some v) : p.block < X.heap.size := cell_lt hc
theorem FourI.next {r : Nat} {l : List Int} {base : Nat} {w : World} {k : Nat} {W W1 : World} {v : Value} {out : List Int} (h : FourI r l base w k W v out) (hb : Below W.heap.size W W1) : FourI r l base w k W1 v out := by
  have b1 := hb.block _ (cell_lt h.lc); have b2 := hb.block _ (cell_lt h.rc); have b3 := hb.block _ (cell_lt h.ec)
  exact ⟨(World.cell?_of_block b1).trans h.lc, (World.frozen?_of_block b1).trans h.lf, h.own.below hb, h.eq, (World.cell?_of_block b2).trans h.rc, (World.frozen?_of_block b2).trans h.rf, (World.cell?_of_block b3).trans h.ec, (World.frozen?_of_block b3).trans h.ef, bcall h.below hb⟩
/-- Behind an append onto the list. -/
theorem FourI.app {r : Nat} {l : List Int} {base : Nat} {w : World} {k : Nat} {W wa : World} {v va : Value} {out : List Int} {o : Obj} (h : FourI r l base w k W v out) (hg : (W.alloc o).grownBy wa v.ownBlock) (hbase : r + 9 ≤ base) (hr : w.heap.size ≤ r) :
    wa.cell? ⟨r + 1 + 1, 0, none⟩ = some v ∧ wa.frozen? ⟨r + 1 + 1, 0, none⟩ = false ∧ wa.cell? ⟨r, 0, none⟩ = some (.slice none 0 0) ∧ wa.frozen? ⟨r, 0, none⟩ = false ∧ wa.cell? ⟨r + 1, 0, none⟩ = some .nilIface ∧ wa.frozen? ⟨r + 1, 0, none⟩ = false ∧ Below w.heap.size w wa := by
  have hlt := h.own.lt
  have key : ∀ x : Nat, x < W.heap.size → x < r + 9 → wa.heap[x]? = W.heap[x]? := fun x hx hx2 => by
    refine (hg.block x (by simp; omega) (fun e => ?_)).trans (Below.heap_alloc W o x hx)
    have := hlt x e.symm
    omega
  have b1 := key _ (cell_lt h.lc) (by show r + 1 + 1 < r + 9; omega); have b2 := key _ (cell_lt h.rc) (by show r < r + 9; omega); have b3 := key _ (cell_lt h.ec) (by show r + 1 < r + 9; omega)
  exact ⟨(World.cell?_of_block b1).trans h.lc, (World.frozen?_of_block b1).trans h.lf, (World.cell?_of_block b2).trans h.rc, (World.frozen?_of_block b2).trans h.rf, (World.cell?_of_block b3).trans h.ec, (World.frozen?_of_block b3).trans h.ef,
    (h.below.alloc h.below.size o).grown hg (by have := h.below.size; simp; omega) (fun x hx => by have := hlt x hx; omega)⟩
theorem four_more {r : Nat} {l : List Int} {base : Nat} {w : World} {k : Nat} {W wa : World} {v va : Value} {out : List Int} {o : Obj} (h : FourI r l base w k W v out) (hg : (W.alloc o).grownBy wa v.ownBlock) (hbase : r + 9 ≤ base) (hr : w.heap.size ≤ r)
    {out2 : List Int} (howna : OwnI wa base va out2) (e2 : four l (k + 1) = some out2) : FourI r l base w (k + 1) (wa.setCell ⟨r + 1 + 1, 0, none⟩ va) va out2 := by
  obtain ⟨a1, a2, a3, a4, a5, a6, a7⟩ := h.app (va := va) hg hbase hr
  have hlt := howna.lt
  have hg2 : wa.grownBy (wa.setCell ⟨r + 1 + 1, 0, none⟩ va) (some (r + 1 + 1)) := grownBy_setCell' wa _ _
  refine ⟨by go_simp, by go_simp, howna.more hg2 ?_, e2, by go_simp, by go_simp, by go_simp, by go_simp, a7.setCell (p := ⟨r + 1 + 1, 0, none⟩) (by show w.heap.size ≤ r + 1 + 1; omega) va⟩
  cases hv : va.ownBlock with
  | none => exact .inl rfl
  | some x => exact .inr (fun e => by have := hlt x hv; cases e; omega)
theorem keptD_app {Pr : Nat → Prop} {lo : Nat} {base : Nat} {W W1 wa : World} {v va : Value} {out : List Int} {o : Obj} {q : Nat} (hb : Below W.heap.size W W1) (hown : OwnI W1 base v out) (hg : (W1.alloc o).grownBy wa v.ownBlock) (hlo : lo + 5 ≤ base)
    (hPr : ∀ x, Pr x → x < lo) (hq : ¬ Pr q) (hq2 : q < lo) : KeptD Pr lo (lo + 2) (lo + 2 + 3) W (wa.setCell ⟨q, 0, none⟩ va) := by
  have k1 : KeptD Pr lo (lo + 2) (lo + 2 + 3) W W1 := keptD_below hb
  have k2 : KeptD Pr lo (lo + 2) (lo + 2 + 3) W1 (W1.alloc o) := KeptD.alloc o
  have k3 : KeptD Pr lo (lo + 2) (lo + 2 + 3) (W1.alloc o) wa := KeptD.grown hg (fun x hx => by
    have h1 := hown.lt x hx
    refine ⟨fun hp => by have := hPr x hp; omega, by omega, .inr (fun o' ho' => ?_)⟩
    obtain ⟨o2, h2, h3⟩ := ownI_cells (hown.alloc o) x hx
    rw [h2] at ho'; cases ho'; exact h3)
  have k4 : KeptD Pr lo (lo + 2) (lo + 2 + 3) wa (wa.setCell ⟨q, 0, none⟩ va) := KeptD.grown (grownBy_setCell' wa q va) (fun x hx => by cases hx; exact ⟨hq, by omega, .inl hq2⟩)
  exact ((k1.trans k2).trans k3).trans k4

theorem five_eq (l : List Int) (k : Nat) : fiveAt l k = #[.agg #[.int .i64 (l[5 * k]?.getD 0), .int .i64 (l[5 * k + 1]?.getD 0), .int .i64 (l[5 * k + 2]?.getD 0), .int .i64 (l[5 * k + 3]?.getD 0), .int .i64 (l[5 * k + 4]?.getD 0)]] := rfl

set_option maxHeartbeats 4000000 in
theorem four_any (p : Option Addr) (cap n : Nat) (l : List Int) (w : World) (hC : Codes w) (hn : n = l.length) (h : Ints w p cap l) (h0 : bad 200 1 l = 0) (k5 : Nat) (h5 : 5 * k5 = n) (X : Option (List Int)) (hX : X = four l k5) :
    Calls Tryd.prog 17 #[.slice p n cap] w fun e w' => Below w.heap.size w w' ∧
      ((X = none ∧ e = .returned (.tuple #[.slice none 0 0, .iface 45 (.int .i64 2)])) ∨ (∃ x v, X = some x ∧ e = .returned (.tuple #[v, .nilIface]) ∧ OwnI w' w.heap.size v x)) := by
  have C := Lib.hid (fun W (hh : Ints W p cap l) => checkBits_good p cap n l W hn hh h0)
  have hl := (bad_zero h0).1
  have hh := fun W (hb : Below w.heap.size w W) => h.below hb
  have HH := Lib.hid hh
  have hlen : n ≤ 200 := by omega
  have t1 : ((n : Int) % 5 != 0) = false := by rw [bne_eq_false_iff_eq]; omega
  have HN := Lib.hid h5
  have HX := Lib.hid hX
  have HL := Lib.hid hn
  clear hh h hn h0 hl h5 hX
  refine (callsIn_wide (n := 0)).1 ?_
  refine callsIn_of_wp_marks Tryd.func17 rfl trivial ?_ rfl
  simp only [Tryd.ntmps17, List.size_toArray, List.length_cons, List.length_nil, Nat.reduceAdd, Nat.reduceSub, Array.replicate_succ, Array.replicate_zero, List.push_toArray, List.append_toArray, List.nil_append, List.cons_append]
  gi_wp2_with (first
    | (refine ⟨trivial, rfl, ?_⟩; gi_at_call 28; refine (callsIn_wide.2 (C.out _ (HH.out _ (balloc (balloc (brefl w) _) _)))).mono ?_; rintro e w' ⟨rfl, rfl⟩)
    | (refine ⟨trivial, rfl, ?_⟩; gi_at_call 30; refine (callsIn_wide.2 (lcut_any _ _ _ _)).mono ?_; rintro e w' ⟨rfl, rfl⟩))
  obtain ⟨b, off, hp, hb, hd0⟩ : ∃ b off, (0 < n → p = some ⟨b, off, none⟩) ∧ (b < w.heap.size ∨ b = w.heap.size + 1 + 1 + 1) ∧ ∀ W, Below w.heap.size w W → ∀ j : Nat, j < n → W.cell? ⟨b, off + j, none⟩ = some (.int .i64 (l[j]?.getD 0)) := by
    have h := HH.out w (brefl w)
    have hnl := HL.out
    by_cases hpos : 0 < n
    · obtain ⟨b, off, hp, hb, hd⟩ := h.2.2.2 (by omega)
      exact ⟨b, off, fun _ => hp, .inl hb, fun W hW j hj => (hW.cell (p := ⟨b, off + j, none⟩) hb).trans (hd j (by omega))⟩
    · exact ⟨w.heap.size + 1 + 1 + 1, 0, fun h1 => absurd h1 hpos, .inr rfl, fun W hW j hj => absurd hj (by omega)⟩
  have hcap : n ≤ cap := by have := (HH.out w (brefl w)).1; have := HL.out; omega
  have hcap2 : cap ≤ 9223372036854775807 := by have := (HH.out w (brefl w)).2.1; unfold maxLen at this; omega
  have hB4 : Below w.heap.size w ((((w.alloc (.cells #[.slice none 0 0] 22)).alloc (.cells #[.nilIface] 26)).alloc (.cells #[.slice none 0 0] 22)).alloc (.cells #[.slice p n cap] 22)) := balloc (balloc (balloc (balloc (brefl w) _) _) _) _
  have hs0 : ((((w.alloc (.cells #[.slice none 0 0] 22)).alloc (.cells #[.nilIface] 26)).alloc (.cells #[.slice none 0 0] 22)).alloc (.cells #[.slice p n cap] 22)).heap.size = w.heap.size + 4 := by simp
  have c1 : ((((w.alloc (.cells #[.slice none 0 0] 22)).alloc (.cells #[.nilIface] 26)).alloc (.cells #[.slice none 0 0] 22)).alloc (.cells #[.slice p n cap] 22)).cell? ⟨w.heap.size + 1 + 1 + 1, 0, none⟩ = some (.slice p n cap) := by go_simp
  have i0 : FourI w.heap.size l (w.heap.size + 9) w 0 ((((w.alloc (.cells #[.slice none 0 0] 22)).alloc (.cells #[.nilIface] 26)).alloc (.cells #[.slice none 0 0] 22)).alloc (.cells #[.slice p n cap] 22)) (.slice none 0 0) [] :=
    ⟨by go_simp, by go_simp, OwnI.nil _ _, rfl, by go_simp, by go_simp, by go_simp, by go_simp, hB4⟩
  generalize ((((w.alloc (.cells #[.slice none 0 0] 22)).alloc (.cells #[.nilIface] 26)).alloc (.cells #[.slice none 0 0] 22)).alloc (.cells #[.slice p n cap] 22)) = w4 at *
  have hd := hd0 w4 hB4
  have hbw : b < w4.heap.size := by rcases hb with h1 | h1 <;> omega
  have hsa : w4.heap.size ≤ w.heap.size + 4 := Nat.le_of_eq hs0
  have hsb : w.heap.size + 4 ≤ w4.heap.size := Nat.le_of_eq hs0.symm
  clear hs0 hd0
  have hlen5 : (fivesOf l k5).length = k5 := by simp [fivesOf]
  refine wp_iterD (tot := fivesOf l k5) (d := 3) (gf := 39) (lb := #[.pointer (some ⟨w.heap.size + 1 + 1 + 1, 0, none⟩)]) rfl (enters_of Tryd.func39 (by kernel_rfl) rfl)
    (cut_iter _ b off cap k5 n l p hp w4 (by omega) HN.out hcap hcap2 c1 hd) (Kept.refl _ _ _) (fun k hk => by rcases hk with rfl | rfl <;> omega) (fun x hx => by simp [fivesOf, fiveAt] at hx; obtain ⟨k, _, rfl⟩ := hx; rfl)
    (fun k W' => ∃ v out, FourI w.heap.size l (w.heap.size + 9) w k W' v out)
    (fun c k W' => c = .ret ∧ FourX w.heap.size w X W')
    (fourI_own _ _ _ _ _ (by omega))
    (fun c => OwnFrom.and (ownFrom_pure _ (fun _ => c = .ret)) (fourX_own _ _ _ _ (by omega)))
    ⟨_, _, i0⟩
    (fun k W => W.alloc (.cells #[.int .i64 (l[5 * k]?.getD 0), .int .i64 (l[5 * k + 1]?.getD 0), .int .i64 (l[5 * k + 2]?.getD 0), .int .i64 (l[5 * k + 3]?.getD 0), .int .i64 (l[5 * k + 4]?.getD 0)] 43))
    (fun k W => World.grownBy_alloc W _ none)
    (fun k g W => W.heap[g]? = some (.cells #[.int .i64 (l[5 * k]?.getD 0), .int .i64 (l[5 * k + 1]?.getD 0), .int .i64 (l[5 * k + 2]?.getD 0), .int .i64 (l[5 * k + 3]?.getD 0), .int .i64 (l[5 * k + 4]?.getD 0)] 43))
    (fun k W => App.alloc_new W _)
    (fun k g W W' row h hg hr => (grownBy_keeps_cells hg hr h rfl).trans h)
    (fun k g => { tmps := #[.slice p n cap, undef, .pointer (some ⟨w.heap.size, 0, none⟩), .pointer (some ⟨w.heap.size + 1, 0, none⟩), .nilIface, .pointer (some ⟨w.heap.size + 1 + 1, 0, none⟩), .pointer (some ⟨g, 0, none⟩), undef, undef, .slice p n cap,
      .nilIface, .nilIface, .bool false, undef, .slice p n cap, .int .i64 n, .int .i64 ((n : Int) % 5), .bool false, undef, .slice p n cap,
      .func (.func 39) #[] #[.pointer (some ⟨w.heap.size + 1 + 1 + 1, 0, none⟩)], .agg #[.int .i64 (l[5 * k]?.getD 0), .int .i64 (l[5 * k + 1]?.getD 0), .int .i64 (l[5 * k + 2]?.getD 0), .int .i64 (l[5 * k + 3]?.getD 0), .int .i64 (l[5 * k + 4]?.getD 0)],
      undef, undef, undef, undef, undef, undef, undef, undef, undef, undef, undef, undef, undef], defers := [] }) ?assign ?body ?done ?stop
  case assign =>
    intro l' k hk W' K hKK
    simp only [fivesOf, List.getElem_map, List.getElem_range, fiveAt]
    gi_wp2
    exact hKK
  case body =>
    rintro l' k hk g W' hl1 hl2 hg1 hg2 hcd ⟨v, out, hI⟩
    have hk' : k < k5 := by simpa [fivesOf] using hk
    have hCW := hC.below hI.below
    have hout : out.length ≤ 40 := by have := (four_some hI.eq).1; have := HN.out; omega
    have hstep : ∀ nn : Nat, num (cut5 l k) = some nn → four l (k + 1) = some (out ++ [(nn : Int)]) := fun nn e => by
      show (match four l k, num (cut5 l k) with | some x, some n => some (x ++ [(n : Int)]) | _, _ => none) = _
      rw [hI.eq, e]
    have hnone : num (cut5 l k) = none → X = none := fun e => by
      rw [HX.out]
      refine four_le (k := k + 1) (by omega) ?_
      show (match four l k, num (cut5 l k) with | some x, some n => some (x ++ [(n : Int)]) | _, _ => none) = _
      rw [hI.eq, e]
    have hnn : ∀ nn : Nat, num (cut5 l k) = some nn → nn < 16 := fun nn e => (num_some e).1
    unfold cut5 at hstep hnone hnn
    have D0 := fun R => decode_any (l[5 * k]?.getD 0) (l[5 * k + 1]?.getD 0) (l[5 * k + 2]?.getD 0) (l[5 * k + 3]?.getD 0) (l[5 * k + 4]?.getD 0) W' hCW R
    generalize l[5 * k]?.getD 0 = x0 at *
    generalize l[5 * k + 1]?.getD 0 = x1 at *
    generalize l[5 * k + 2]?.getD 0 = x2 at *
    generalize l[5 * k + 3]?.getD 0 = x3 at *
    generalize l[5 * k + 4]?.getD 0 = x4 at *
    have g0 := cell_of_row W' _ 0 _ _ _ hcd
    have g1 := cell_of_row W' _ 1 _ _ _ hcd
    have g2 := cell_of_row W' _ 2 _ _ _ hcd
    have g3 := cell_of_row W' _ 3 _ _ _ hcd
    have g4 := cell_of_row W' _ 4 _ _ _ hcd
    have HS := Lib.hid hstep
    have HNO := Lib.hid hnone
    have hII := Lib.hid hI
    have hbI := hI.below
    have hWs := hbI.size
    clear hstep hnone hI hd hcd hCW i0 c1 hlen5
    cases hR : num [x0, x1, x2, x3, x4] with
    | some nn =>
      have D := Lib.hid (D0 (some nn) hR.symm)
      have hn16 := hnn nn hR
      have HS2 := Lib.hid (HS.out nn hR)
      clear D0 hR hnn HS HNO
      have hnw : (Lit.int .i64 (nn : Int)).wf = true := by simp [Lit.wf, IntKind.min, IntKind.max, IntKind.signed, IntKind.bits]; omega
      gi_wp2_with (first
        | (refine ⟨trivial, rfl, ?_⟩
           gi_at_call 31
           refine (CallsIn.inRound _ (callsIn_wide.2 D.out)).mono ?_
           rintro e w1 ⟨rfl, hb1⟩
           have hI1 := Lib.hid (hII.out.next hb1)
           have lc := hI1.out.lc
           have lf := hI1.out.lf
           have hs1 := hb1.size)
        | (gi_at_builtin
           refine wp_app_in rfl (.tmp 30) (.tmp 32) rfl (w.heap.size + 9) v out (some ⟨w1.heap.size, 0, none⟩) 1 1 [(nn : Int)] rfl (hI1.out.own.alloc _) rfl rfl (Ints.one w1 _ hnw) (by simp; omega) (by simp; omega) ?_
           intro va wa howna hga hata
           have hga' := Lib.hid hga
           obtain ⟨la, fa, ra, ta, ea, xa, ba⟩ := hI1.out.app (va := va) hga (Nat.le_refl _) (Nat.le_refl _)
           obtain ⟨q, c, m, rfl⟩ : ∃ q c m, va = .slice q m c := by obtain ⟨q, c, e, _⟩ := howna.form; exact ⟨q, c, _, e⟩
           have hown2 := Lib.hid howna
           clear hga hata howna))
      exact ⟨keptD_app hb1 hI1.out.own hga'.out (by omega) (fun x hx => by rcases hx with rfl | rfl <;> omega) (fun hx => by rcases hx with hx | hx <;> omega) (by omega), _, _, four_more hI1.out hga'.out (Nat.le_refl _) (Nat.le_refl _) hown2.out HS2.out⟩
    | none =>
      have D := Lib.hid (D0 none hR.symm)
      have hXn := HNO.out hR
      clear D0 hR hnn HS HNO
      gi_wp2_with ((refine ⟨trivial, rfl, ?_⟩
                    gi_at_call 31
                    refine (CallsIn.inRound _ (callsIn_wide.2 D.out)).mono ?_
                    rintro e w1 ⟨rfl, hb1⟩
                    have hI1 := Lib.hid (hII.out.next hb1)
                    have rc := hI1.out.rc
                    have rf := hI1.out.rf
                    have ec := hI1.out.ec
                    have ef := hI1.out.ef))
      refine ⟨?_, rfl, hXn, by go_simp, by go_simp, ((hI1.out.below.setCell (p := ⟨w.heap.size, 0, none⟩) (Nat.le_refl _) _).setCell (p := ⟨w.heap.size + 1, 0, none⟩) (by simp) _)⟩
      have k1 : KeptD (fun k => k = w.heap.size + 1 + 1 + 1 ∨ k = b) w4.heap.size (w4.heap.size + 2) (w4.heap.size + 2 + 3) W' w1 := keptD_below hb1
      have k2 : ∀ (Y : World) (x : Nat) (u : Value), x ≤ w.heap.size + 1 → w.heap.size ≤ x → KeptD (fun k => k = w.heap.size + 1 + 1 + 1 ∨ k = b) w4.heap.size (w4.heap.size + 2) (w4.heap.size + 2 + 3) Y (Y.setCell ⟨x, 0, none⟩ u) := fun Y x u hx hx2 =>
        KeptD.grown (grownBy_setCell' Y x u) (fun r e => by cases e; exact ⟨fun hq => by rcases hq with hq | hq <;> omega, by omega, .inl (by omega)⟩)
      exact (k1.trans (k2 _ _ _ (by omega) (Nat.le_refl _))).trans (k2 _ _ _ (Nat.le_refl _) (by omega))
  case done =>
    rintro D W' hD ⟨v, out, hI⟩ hKD
    rw [hlen5] at hI
    have hXe : X = some out := by rw [HX.out]; exact hI.eq
    have hlc := hI.lc
    have hrc := hI.rc
    have hrf := hI.rf
    have hec := hI.ec
    have hef := hI.ef
    have hbel := hI.below
    have hII := Lib.hid hI
    obtain ⟨q, c, m, rfl⟩ : ∃ q c m, v = .slice q m c := by obtain ⟨q, c, e, _⟩ := hI.own.form; exact ⟨q, c, _, e⟩
    have hDn : D ≠ w.heap.size := by omega
    have hDn1 : D ≠ w.heap.size + 1 := by omega
    clear hI i0 c1 hd
    gi_wp2
    have hX1 : ((W'.setCell ⟨w.heap.size, 0, none⟩ (.slice q m c)).setCell ⟨w.heap.size + 1, 0, none⟩ .nilIface).cell? ⟨w.heap.size, 0, none⟩ = some (.slice q m c) := by go_simp
    have hX2 : ((W'.setCell ⟨w.heap.size, 0, none⟩ (.slice q m c)).setCell ⟨w.heap.size + 1, 0, none⟩ .nilIface).cell? ⟨w.heap.size + 1, 0, none⟩ = some .nilIface := by go_simp
    have hlD : D < W'.heap.size := (Array.getElem?_eq_some_iff.1 hKD).1
    have gA : W'.grownBy (W'.setCell ⟨w.heap.size, 0, none⟩ (.slice q m c)) (some w.heap.size) := grownBy_setCell' W' _ _
    have gB : (W'.setCell ⟨w.heap.size, 0, none⟩ (.slice q m c)).grownBy ((W'.setCell ⟨w.heap.size, 0, none⟩ (.slice q m c)).setCell ⟨w.heap.size + 1, 0, none⟩ .nilIface) (some (w.heap.size + 1)) := grownBy_setCell' _ _ _
    have hX3 : ((W'.setCell ⟨w.heap.size, 0, none⟩ (.slice q m c)).setCell ⟨w.heap.size + 1, 0, none⟩ .nilIface).heap[D]? = some (.deferred (some [])) :=
      (gB.block D (Nat.lt_of_lt_of_le hlD gA.size) (fun e => by cases e; omega)).trans ((gA.block D hlD (fun e => by cases e; omega)).trans hKD)
    have hX4 : Below w.heap.size w ((W'.setCell ⟨w.heap.size, 0, none⟩ (.slice q m c)).setCell ⟨w.heap.size + 1, 0, none⟩ .nilIface) := (hbel.setCell (p := ⟨w.heap.size, 0, none⟩) (Nat.le_refl _) _).setCell (p := ⟨w.heap.size + 1, 0, none⟩) (by simp) _
    have hX5 : OwnI ((W'.setCell ⟨w.heap.size, 0, none⟩ (.slice q m c)).setCell ⟨w.heap.size + 1, 0, none⟩ .nilIface) w.heap.size (.slice q m c) out := by
      have hlt := hII.out.own.lt
      refine own_mono ((hII.out.own.more gA ?_).more gB ?_) (by omega)
      · cases hv : (Value.slice q m c).ownBlock with
        | none => exact .inl rfl
        | some x => exact .inr (fun e => by have := hlt x hv; cases e; omega)
      · cases hv : (Value.slice q m c).ownBlock with
        | none => exact .inl rfl
        | some x => exact .inr (fun e => by have := hlt x hv; cases e; omega)
    generalize ((W'.setCell ⟨w.heap.size, 0, none⟩ (.slice q m c)).setCell ⟨w.heap.size + 1, 0, none⟩ .nilIface) = Y at hX1 hX2 hX3 hX4 hX5 ⊢
    have hrow : ∀ r, some D = some r → ∃ o : Obj, Y.heap[r]? = some o ∧ o.isCells = false := fun r e => by cases e; exact ⟨_, hX3, rfl⟩
    refine ⟨by simp, .inl ⟨_, _, rfl, run_takeDeferred hX3, ?_⟩⟩
    exact ⟨_, results_cell2 rfl Tryd.underlying22 Tryd.underlying26 rfl rfl _ _ _ _ rfl rfl _ _ (cell_kept hX1 (grownBy_putObj' Y D _) hrow) (cell_kept hX2 (grownBy_putObj' Y D _) hrow),
      ownFrom_below (B := D) (Nat.le_refl _) (by omega) () Y _ _ hX4 (grownBy_putObj' Y D _) (fun r e => by cases e; exact ⟨Nat.le_refl _, _, hX3, rfl⟩), .inr ⟨_, _, hXe, rfl, ownI_kept hX5 (grownBy_putObj' Y D _) hrow⟩⟩
  case stop =>
    rintro D c k W' hD ⟨rfl, hXn, hrc, hec, hbel⟩ hKD
    gi_wp2
    have hrow : ∀ r, some D = some r → ∃ o : Obj, W'.heap[r]? = some o ∧ o.isCells = false := fun r e => by cases e; exact ⟨_, hKD, rfl⟩
    refine ⟨by simp, .inl ⟨_, _, rfl, run_takeDeferred hKD, ?_⟩⟩
    exact ⟨_, results_cell2 rfl Tryd.underlying22 Tryd.underlying26 rfl rfl _ _ _ _ rfl rfl _ _ (cell_kept hrc (grownBy_putObj' W' D _) hrow) (cell_kept hec (grownBy_putObj' W' D _) hrow),
      ownFrom_below (B := D) (Nat.le_refl _) (by omega) () W' _ _ hbel (grownBy_putObj' W' D _) (fun r e => by cases e; exact ⟨Nat.le_refl _, _, hKD, rfl⟩), .inl ⟨hXn, rfl⟩⟩
end Go.Proofs.YtooicigocljomaaDoor.Line
