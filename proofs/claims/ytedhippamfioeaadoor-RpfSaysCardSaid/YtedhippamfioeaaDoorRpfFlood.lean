/- Package rpf: Flood. No statement is proved here. -/
import Derived.Test.YtedhippamfioeaaDoorRpfSt
import Derived.Deep.RegionLaw
import Derived.Deep.Cut
import Derived.Deep.MidRow
import Derived.Laws.EntriesVeiled
import Derived.Test.YtedhippamfioeaaDoorQuietRound
namespace Go.Proofs.YtedhippamfioeaaDoor.Rpf
open Go.ChangeShapes Go.WideShapes Go.ChangeAt Go.RowKit Go.Shelf Go.Proofs.YtedhippamfioeaaDoor.Kit Go.Proofs.YtedhippamfioeaaDoor.App Go.Proofs.YtedhippamfioeaaDoor.Cells Go.Proofs.YtedhippamfioeaaDoor.Err Go.Proofs.YtedhippamfioeaaDoor.It Go.Proofs.YtedhippamfioeaaDoor.Vector Go.Proofs.YtedhippamfioeaaDoor.Spf
set_option linter.unusedVariables false
set_option maxRecDepth 20000
set_option maxHeartbeats 8000000
attribute [local go_sem] Oper.semAt_some

theorem results_cct {fn : Func} {p q r : Tmp} {ty tu : TypeId} {dy du : TypeDesc} (h : fn.results = #[.cell p ty, .cell q tu, .tmp r]) (hy : Tryd.prog.underlying ty = some dy) (hu : Tryd.prog.underlying tu = some du)
    (hy2 : (match dy with | .struct _ | .array _ _ => true | _ => false) = false) (hu2 : (match du with | .struct _ | .array _ _ => true | _ => false) = false) (tmps : Array Value) (w : World) (a b : Addr)
    (hp : tmps.getD p undef = .pointer (some a)) (hq : tmps.getD q undef = .pointer (some b)) (va vb vc : Value) (hr : tmps.getD r undef = vc) (ha : w.cell? a = some va) (hb : w.cell? b = some vb) :
    (results fn tmps).run Tryd.prog w = .ok (.tuple #[va, vb, vc]) w := by
  have e1 : (loadVar ty a).run Tryd.prog w = .ok va w := by
    unfold loadVar isAgg
    rw [Sem.run_bind, Sem.run_bind, run_underlying hy w]
    cases dy <;> simp_all
  have e2 : (loadVar tu b).run Tryd.prog w = .ok vb w := by
    unfold loadVar isAgg
    rw [Sem.run_bind, Sem.run_bind, run_underlying hu w]
    cases du <;> simp_all
  have hp' : tmps[p]?.getD undef = .pointer (some a) := by simpa using hp
  have hq' : tmps[q]?.getD undef = .pointer (some b) := by simpa using hq
  have hr' : tmps[r]?.getD undef = vc := by simpa using hr
  simp [results, h, hp', hq', hr', asAddr, e1, e2, Sem.run_bind, Result.andThen]

theorem all_any (b : Nat) (w : World) :
    Calls Tryd.prog 20 #[.pointer (some ⟨b, 0, none⟩)] w fun e w' => e = .returned (.func (.func 25) #[] #[.pointer (some ⟨w.heap.size, 0, none⟩)]) ∧ w.alloc (.cells #[.pointer (some ⟨b, 0, none⟩)] 63) = w' := by
  go_enter Tryd.func20, Tryd.ntmps20
  go_wp2
  go_ret
  exact ⟨rfl, rfl⟩

variable {w : World} {B : Bs} {n s : Nat} {ls : List Lk}
/-- Between two rounds; and in one, when d is taken out. -/
def FI (w : World) (B : Bs) (n : Nat) (ls : List Lk) (s : Nat) (k : Nat) (v : Value) (F : List Sd) (W : World) : Prop := ∃ P C, Fly n ls s P F C k ∧ St w B n ls s k C v F W
def FP (w : World) (B : Bs) (n : Nat) (ls : List Lk) (s : Nat) (k : Nat) (d : Sd) (v : Value) (F : List Sd) (W : World) : Prop := ∃ P C, Fly n ls s P (d :: F) C k ∧ St w B n ls s k C v F W
theorem fi_ask (g : Vector.Good n ls) (hO : B.Ok) (hz : B.z ≤ w.heap.size) : Ask B.x B.b (FI w B n ls s) (FP w B n ls s) := by
  refine ⟨fun k v F W h => ?_, fun k v d F v' W W' h hg hq hv => ?_⟩
  · obtain ⟨P, C, h1, h2⟩ := h
    have o6 := hO.o6
    have o7 := hO.o7
    exact ⟨h2.box.cell 0 _ rfl, h2.q, h1.top g, by omega⟩
  · obtain ⟨P, C, h1, h2⟩ := h
    exact ⟨P, C, h1, h2.queue hO hz ⟨hg.os, hg.tape, hg.output, hg.size, fun k hk hkb _ => hg.block k hk (fun e => hkb (by injection e)), fun k hk => .inl (hv ▸ hk)⟩ hq⟩
theorem fi_abide (hO : B.Ok) (hz : B.z ≤ w.heap.size) {X : World} (hX : B.z ≤ X.heap.size) (k : Nat) (v : Value) (F : List Sd) : Abide X.heap.size (FI w B n ls s k v F) := fun W W' row h hg hr => by
  obtain ⟨P, C, h1, h2⟩ := h
  exact ⟨P, C, h1, St.abide hO hz (Nat.le_refl _) hX _ _ _ h2 hg hr⟩
theorem fp_abide (hO : B.Ok) (hz : B.z ≤ w.heap.size) {X : World} (hX : B.z ≤ X.heap.size) (k : Nat) (d : Sd) (v : Value) (F : List Sd) : Abide X.heap.size (FP w B n ls s k d v F) := fun W W' row h hg hr => by
  obtain ⟨P, C, h1, h2⟩ := h
  exact ⟨P, C, h1, St.abide hO hz (Nat.le_refl _) hX _ _ _ h2 hg hr⟩
theorem Fly.small (g : Vector.Good n ls) {P : List Nat} {F : List Sd} {c : Nat → Nat} {k v : Nat} (h : Fly n ls s P F c k) (hv : v < n) : c v ≤ 8 := by
  have h1 := run_len g h.run
  have h2 := g.up
  have h3 := h.got v hv
  have h4 := had_le (ls := ls) (s := s) v P
  omega

/-- What is laid while Flood begins: some blocks. -/
structure Got (w W : World) (z : Nat) (L : List (Nat × TypeId × List Value)) : Prop where
  bel : Below z w W
  all : ∀ x ∈ L, Blk x.2.1 W x.1 x.2.2
theorem Got.below {W W' : World} {z : Nat} {L : List (Nat × TypeId × List Value)} (h : Got w W z L) (hz : z ≤ W.heap.size) (hb : Below W.heap.size W W') : Got w W' z L :=
  ⟨h.bel.trans (hb.mono hz), fun x hx => (h.all x hx).below hb⟩
theorem Got.alloc {W : World} {z : Nat} {L : List (Nat × TypeId × List Value)} (h : Got w W z L) (hz : z ≤ W.heap.size) (T : TypeId) (l : List Value) : Got w (W.alloc (.cells l.toArray T)) z ((W.heap.size, T, l) :: L) :=
  ⟨h.bel.trans ((balloc (brefl W) _).mono hz), fun x hx => by
    rcases List.mem_cons.1 hx with rfl | hx
    · exact Blk.new W T l
    · exact (h.all x hx).alloc _⟩
theorem Got.set {W : World} {z g : Nat} {T : TypeId} {l : List Value} {L : List (Nat × TypeId × List Value)} (h : Got w W z ((g, T, l) :: L)) (hz : z ≤ g) (hne : ∀ x ∈ L, x.1 ≠ g) (k : Nat) (v : Value) : Got w (W.setCell ⟨g, k, none⟩ v) z ((g, T, l.set k v) :: L) :=
  ⟨below_set h.bel _ _ _ hz, fun x hx => by
    rcases List.mem_cons.1 hx with rfl | hx
    · exact (h.all (g, T, l) (by simp)).set k v
    · exact (h.all x (List.mem_cons_of_mem _ hx)).other _ _ _ (hne x hx)⟩
theorem Got.mono {W : World} {z : Nat} {L L' : List (Nat × TypeId × List Value)} (h : Got w W z L) (hs : ∀ x ∈ L', x ∈ L) : Got w W z L' := ⟨h.bel, fun x hx => h.all x (hs x hx)⟩
theorem Got.lt {W : World} {z : Nat} {L : List (Nat × TypeId × List Value)} (h : Got w W z L) : ∀ x ∈ L, x.1 < W.heap.size := fun x hx => (h.all x hx).lt
theorem Got.new {W : World} {z : Nat} {L : List (Nat × TypeId × List Value)} (h : Got w W z L) (hz : z ≤ W.heap.size) (T : TypeId) (l : List Value) (v : Value) : Got w ((W.alloc (.cells l.toArray T)).setCell ⟨W.heap.size, 0, none⟩ v) z ((W.heap.size, T, l.set 0 v) :: L) :=
  (h.alloc hz T l).set hz (fun x hx e => by have := h.lt x hx; omega) 0 v

theorem Got.cells {W : World} {z g : Nat} {T : TypeId} {l : List Value} {L : List (Nat × TypeId × List Value)} (h : Got w W z ((g, T, l) :: L)) (hz : z ≤ g) (hw : z ≤ w.heap.size) (hne : ∀ x ∈ L, x.1 ≠ g) (vs : List Value) (hl : l.length = vs.length) : Got w (W.setCells g 0 vs) z ((g, T, vs) :: L) :=
  ⟨gbelow h.bel hw (cells_grown g vs W 0) hz, fun x hx => by
    rcases List.mem_cons.1 hx with rfl | hx
    · exact blk_cells (h.all (g, T, l) (by simp)) vs hl
    · exact (h.all x (List.mem_cons_of_mem _ hx)).more (cells_grown g vs W 0) (fun e => hne x hx (by injection e))⟩
theorem Got.grown {W W' : World} {z : Nat} {L : List (Nat × TypeId × List Value)} (h : Got w W z L) (hz : z ≤ W.heap.size) (hg : W.grownBy W' none) : Got w W' z L :=
  ⟨h.bel.grown hg hz (fun r e => by cases e), fun x hx => (h.all x hx).more hg (fun e => by cases e)⟩
theorem Got.mv {W W' : World} {z b : Nat} {v' : Value} {L : List (Nat × TypeId × List Value)} (h : Got w W z L) (hm : Mv b (.slice none 0 0) W v' W') (hzW : z ≤ W.heap.size) (hb : z ≤ b) (hne : ∀ x ∈ L, x.1 ≠ b) : Got w W' z L :=
  ⟨⟨hm.os.trans h.bel.os, hm.tape.trans h.bel.tape, hm.output.trans h.bel.output, Nat.le_trans h.bel.size hm.size, fun k hk => (hm.block k (by omega) (by omega) (by simp [Value.ownBlock])).trans (h.bel.block k hk)⟩,
    fun x hx => (hm.block x.1 (h.lt x hx) (hne x hx) (by simp [Value.ownBlock])).trans (h.all x hx)⟩
theorem own_mv {W W' : World} {b base g n cap : Nat} {v' : Value} {l : List Int} (h : OwnI W base (.slice (some ⟨g, 0, none⟩) n cap) l) (hm : Mv b (.slice none 0 0) W v' W') (hne : g ≠ b) : OwnI W' base (.slice (some ⟨g, 0, none⟩) n cap) l := by
  obtain ⟨⟨hl, ⟨e, hn⟩ | ⟨g', cap', cur, e, hb', hh, rest⟩⟩, hw⟩ := h
  · cases e
  · obtain ⟨rfl⟩ : g = g' := by injection e with e; injection e with e; injection e
    exact ⟨⟨hl, .inr ⟨g, cap', cur, e, hb', (hm.block g (Array.getElem?_eq_some_iff.1 hh).1 hne (by simp [Value.ownBlock])).trans hh, rest⟩⟩, hw⟩

theorem ko_mv {W W' : World} {b : Nat} {v v' : Value} {F : List Sd} (h : Qs W b v F) (hm : Mv b v W v' W') : KeepsOthers W W' :=
  ⟨hm.size, fun k o hk ho => (hm.block k (Array.getElem?_eq_some_iff.1 hk).1 (fun e => by
    subst e
    have h2 : W.heap[k]? = _ := h.blk
    rw [h2] at hk; cases hk; cases ho) (fun e => by
    obtain ⟨o', h3, h4⟩ := qc_cells h.own k e
    rw [h3] at hk; cases hk; rw [h4] at ho; cases ho)).trans hk⟩
theorem ko_come {W : World} (a1 a2 : Addr) (x y : Value) (m : Nat) : KeepsOthers W (((W.setCell a1 x).setCell a2 y).drewN m) :=
  ((KeepsOthers.setCell W a1 x).trans (KeepsOthers.setCell _ a2 y)).trans ⟨Nat.le_refl _, fun _ _ h _ => h⟩

theorem flood_good (p : Option Addr) (cap m : Nat) (w : World) (hm : m = ls.length) (hi : CI layL w p cap ls) (g : Vector.Good n ls) (hs : s < n) :
    Calls Tryd.prog 7 #[.int .i64 (n : Int), .slice p m cap, .int .i64 (s : Int)] w fun e w' => ∃ u, e = .returned (.tuple #[u, .int .i64 ((sent n ls s : Nat) : Int), .nilIface]) ∧ OwnI w' w.heap.size u (cps n (copies n ls s)) ∧ Below w.heap.size w w' := by
  have hn8 := g.up
  have hn1 := g.lo
  have hws : (Lit.int .i64 (s : Int)).wf = true := by simp [Lit.wf, IntKind.min, IntKind.max, IntKind.signed, IntKind.bits]; omega
  have hwr : wrong n ls [(s : Int)] = 0 := by
    unfold wrong
    rw [if_pos (code_good g)]
    unfold outs outs
    rw [if_neg (by omega)]
  obtain ⟨z, hz⟩ : ∃ z, w.heap.size = z := ⟨_, rfl⟩
  have HZ := Lib.hid hz
  have CK := Lib.hid (fun (W : World) (hW : Below w.heap.size w W) b (hx : Ints W (some ⟨b, 0, none⟩) 1 [(s : Int)]) => check_any n p cap m ls (some ⟨b, 0, none⟩) 1 1 [(s : Int)] W hm (hi.below hW) rfl hx 0 hwr)
  have CH := Lib.hid (fun W (hW : Below w.heap.size w W) => hops_good n s p cap m ls W hm (hi.below hW) g hs)
  have CN := Lib.hid (fun W (hW : Below w.heap.size w W) => neighbors_any n p cap m ls W g hm (hi.below hW))
  have HI1 := Lib.hid (fun W => Ints.one W s hws)
  have HG := Lib.hid g
  have HS := Lib.hid hs
  rw [er_0] at CK
  clear hm hi hwr hws g hs
  refine (callsIn_wide (n := 0)).1 ?_
  refine callsIn_of_wp_marks Tryd.func7 rfl trivial ?_ rfl
  simp only [Tryd.ntmps7, List.size_toArray, List.length_cons, List.length_nil, Nat.reduceAdd, Nat.reduceSub, Array.replicate_succ, Array.replicate_zero, List.push_toArray, List.append_toArray, List.nil_append, List.cons_append]
  refine wpIn_wide.2 ?_
  have HL3 := Lib.hid (show Got w (((w.alloc (.cells #[.slice none 0 0] 25)).alloc (.cells #[.int .i64 0] 3)).alloc (.cells #[.int .i64 (s : Int)] 3)) z [(z + 2, 3, [.int .i64 (s : Int)]), (z + 1, 3, [.int .i64 0]), (z, 25, [.slice none 0 0])] from by
    have h0 : Got w w z [] := ⟨by rw [← hz]; exact brefl w, fun x hx => by cases hx⟩
    have h1 := h0.alloc (Nat.le_of_eq hz.symm) 25 [.slice none 0 0]
    have h2 := h1.alloc (by simp; omega) 3 [.int .i64 0]
    have h3 := h2.alloc (by simp; omega) 3 [.int .i64 (s : Int)]
    simp only [World.size_alloc, hz] at h3
    exact h3)
  have HC3 := Lib.hid (show Ints (((w.alloc (.cells #[.slice none 0 0] 25)).alloc (.cells #[.int .i64 0] 3)).alloc (.cells #[.int .i64 (s : Int)] 3)) (some ⟨z + 1 + 1, 0, none⟩) 1 [(s : Int)] from by
    have h := HI1.out ((w.alloc (.cells #[.slice none 0 0] 25)).alloc (.cells #[.int .i64 0] 3))
    simp only [World.size_alloc, hz] at h
    exact h)
  have HS3 := Lib.hid (show (((w.alloc (.cells #[.slice none 0 0] 25)).alloc (.cells #[.int .i64 0] 3)).alloc (.cells #[.int .i64 (s : Int)] 3)).heap.size = z + 3 from by simp [hz])
  clear HI1
  go_wp2_with fail
  generalize ((w.alloc _).alloc _).alloc _ = w3 at HL3 HC3 HS3 ⊢
  clear hz
  refine (CK.out w3 (by rw [HZ.out]; exact HL3.out.bel) _ HC3.out).mono ?_; rintro e w4 ⟨rfl, hb⟩
  have HL4 := Lib.hid (HL3.out.below (by rw [HS3.out]; omega) hb)
  have HS4 := Lib.hid (show z + 3 ≤ w4.heap.size from by rw [← HS3.out]; exact hb.size)
  clear hb HL3 HC3 HS3 CK
  go_wp2_with fail
  refine (CH.out w4 (by rw [HZ.out]; exact HL4.out.bel)).mono ?_; rintro e w5 ⟨v5, rfl, ho, hb⟩
  obtain ⟨gh, ch, rfl, hg1, hg2, _, _⟩ := own_pos ho (by rw [rw1_len]; omega)
  rw [rw1_len] at ho ⊢
  have HL5 := Lib.hid (HL4.out.below (by have := HS4.out; omega) hb)
  have HO5 := Lib.hid (show OwnI w5 z _ _ from own_mono ho (by have := HS4.out; omega))
  have HG5 := Lib.hid (show z + 3 ≤ gh ∧ gh < w5.heap.size from ⟨by have := HS4.out; omega, hg2⟩)
  obtain ⟨gb, hgb⟩ : ∃ gb, w5.heap.size = gb := ⟨_, rfl⟩
  rw [hgb] at HG5
  have HL6 := Lib.hid (show Got w (w5.alloc (.cells #[.slice (some ⟨gh, 0, none⟩) n ch] 25)) z _ from HL5.out.alloc (by have := HG5.out; omega) 25 [.slice (some ⟨gh, 0, none⟩) n ch])
  rw [hgb] at HL6
  have HO6 := Lib.hid (HO5.out.alloc (.cells #[.slice (some ⟨gh, 0, none⟩) n ch] 25))
  have HS6 := Lib.hid (show (w5.alloc (.cells #[.slice (some ⟨gh, 0, none⟩) n ch] 25)).heap.size = gb + 1 from by simp [hgb])
  clear ho hb hg1 hg2 HL4 HS4 CH HL5 HO5
  go_wp2_with fail
  generalize w5.alloc _ = w6 at HL6 HO6 HS6 ⊢
  clear hgb
  refine (CN.out w6 (by rw [HZ.out]; exact HL6.out.bel)).mono ?_; rintro e w7 ⟨rfl, hb⟩
  have HS7 := Lib.hid (show gb + 1 ≤ w7.heap.size from by rw [← HS6.out]; exact hb.size)
  have HL7 := Lib.hid (HL6.out.below (by have := HS6.out; have := HG5.out; omega) hb)
  have HO7 := Lib.hid (HO6.out.below hb)
  clear hb HL6 HO6 HS6 CN
  obtain ⟨j, hj⟩ : ∃ j, w7.heap.size = j := ⟨_, rfl⟩
  rw [hj] at HS7
  have HL8 := Lib.hid (HL7.out.alloc (by have := HG5.out; have := HS7.out; omega) 45 (jar fun _ _ => false))
  have HO8 := Lib.hid (HO7.out.alloc (.cells (jar fun _ _ => false).toArray 45))
  have HS8 := Lib.hid (show (w7.alloc (.cells (jar fun _ _ => false).toArray 45)).heap.size = j + 1 from by simp [hj])
  rw [hj] at HL8
  rw [jar_lit] at HL8 HO8 HS8
  clear HL7 HO7
  simp only []
  go_at_K
  go_step
  go_step
  rename_i K2 hK2
  go_step
  generalize w7.alloc _ = w8 at HL8 HO8 HS8 ⊢
  clear hj
  refine hK2 _ _ ?_
  have hzw : z ≤ w.heap.size := by rw [HZ.out]; exact Nat.le_refl _
  have hres : Blk 45 w8 j (jar fun _ _ => false) := HL8.out.all _ (.head _)
  refine wpList_store_mid rfl 45 _ _ rfl j 0 (jar (jn ls)).toArray rfl rfl (fun i hi => ⟨?_, by rw [Nat.zero_add]; exact hres.fz i⟩) (by rw [List.size_toArray]; exact size64j _) (one_jar _) ?_
  · rw [List.size_toArray] at hi
    unfold jar at hi
    rw [ar_len] at hi
    rw [Nat.zero_add, hres.cell i _ (ar_get _ hi)]
    rfl
  rw [show (jar (jn ls)).toArray.toList = jar (jn ls) from rfl]
  have HL9 := Lib.hid (HL8.out.cells (by have := HG5.out; have := HS7.out; omega) hzw (by
    have h1 := HG5.out
    have h2 := HS7.out
    intro x hx
    simp only [List.mem_cons, List.not_mem_nil, or_false] at hx
    rcases hx with rfl | rfl | rfl | rfl <;> (simp only []; omega)) (jar (jn ls)) rfl)
  have hcg := cells_grown j (jar (jn ls)) w8 0
  have HO9 := Lib.hid (HO8.out.more hcg (.inr (fun e => by have h1 := HG5.out; have h2 := HS7.out; simp [Value.ownBlock] at e; omega)))
  have HS9 := Lib.hid (show j + 1 ≤ (w8.setCells j 0 (jar (jn ls))).heap.size from by have h1 := hcg.size; have h2 := HS8.out; omega)
  generalize w8.setCells j 0 (jar (jn ls)) = w9 at HL9 HO9 HS9 ⊢
  clear hres hcg hK2 HL8 HO8 HS8
  obtain ⟨w10, hmk, hoc, hg10⟩ := made_ints w9 n (by omega)
  obtain ⟨c, hc⟩ : ∃ c, w9.heap.size = c := ⟨_, rfl⟩
  rw [hc] at hmk hoc HS9
  have hcl := hoc.lt c rfl
  have HL10 := Lib.hid (HL9.out.grown (by have := HG5.out; have := HS7.out; have := HS9.out; omega) hg10)
  have HO10 := Lib.hid (HO9.out.more hg10 (.inr (by simp [Value.ownBlock])))
  have HC10 := Lib.hid hoc
  obtain ⟨b, hb⟩ : ∃ b, w10.heap.size = b := ⟨_, rfl⟩
  rw [hb] at hcl
  have HCB := Lib.hid hcl.2
  have z0 : w10.cell? ⟨z, 0, none⟩ = some (.slice none 0 0) := (HL10.out.all _ (.tail _ (.tail _ (.tail _ (.tail _ (.head _)))))).cell 0 _ rfl
  have z1 := (HL10.out.all _ (.tail _ (.tail _ (.tail _ (.tail _ (.head _)))))).fz 0
  generalize hV : (jar (jn ls)).toArray = V
  have HVE := Lib.hid hV
  have HL13 := Lib.hid (show Got w (((w10.setCell ⟨z, 0, none⟩ (.slice (some ⟨c, 0, none⟩) n n)).alloc (.cells #[.slice none 0 0] 49)).alloc (.cells #[.func (.func 18) #[] #[.pointer (some ⟨j, 0, none⟩), .pointer (some ⟨b, 0, none⟩)]] 53)) z _ from by
    have h1 := HG5.out
    have h2 := HS7.out
    have h3 := HS9.out
    have h4 := HCB.out
    have hp : ∀ x ∈ [(z, 25, [Value.slice none 0 0]), (j, 45, jar (jn ls)), (gb, 25, [.slice (some ⟨gh, 0, none⟩) n ch]), (z + 1, 3, [.int .i64 0])], x ∈ _ := fun x hx => (show x ∈ [(j, 45, jar (jn ls)), (gb, 25, [.slice (some ⟨gh, 0, none⟩) n ch]), (z + 2, 3, [.int .i64 (s : Int)]), (z + 1, 3, [.int .i64 0]), (z, 25, [.slice none 0 0])] from by
      simp only [List.mem_cons, List.not_mem_nil, or_false] at hx
      rcases hx with rfl | rfl | rfl | rfl
      · exact .tail _ (.tail _ (.tail _ (.tail _ (.head _))))
      · exact .head _
      · exact .tail _ (.head _)
      · exact .tail _ (.tail _ (.tail _ (.head _))))
    have h5 := (HL10.out.mono hp).set (Nat.le_refl _) (fun x hx => by
      simp only [List.mem_cons, List.not_mem_nil, or_false] at hx
      rcases hx with rfl | rfl | rfl <;> (simp only []; omega)) 0 (.slice (some ⟨c, 0, none⟩) n n)
    have hsz : (w10.setCell ⟨z, 0, none⟩ (.slice (some ⟨c, 0, none⟩) n n)).heap.size = b := by simp [World.setCell, hb]
    have h6 := h5.alloc (by rw [hsz]; omega) 49 [.slice none 0 0]
    rw [hsz] at h6
    have h7 := h6.alloc (by rw [World.size_alloc, hsz]; omega) 53 [.func (.func 18) #[] #[.pointer (some ⟨j, 0, none⟩), .pointer (some ⟨b, 0, none⟩)]]
    rw [World.size_alloc, hsz] at h7
    exact h7)
  have HG13 := Lib.hid (show w10.grownBy (((w10.setCell ⟨z, 0, none⟩ (.slice (some ⟨c, 0, none⟩) n n)).alloc (.cells #[.slice none 0 0] 49)).alloc (.cells #[.func (.func 18) #[] #[.pointer (some ⟨j, 0, none⟩), .pointer (some ⟨b, 0, none⟩)]] 53)) (some z) from
    gtr (gtr (set_grown w10 z 0 _) (World.grownBy_alloc _ _ _)) (World.grownBy_alloc _ _ _))
  have HO13 := Lib.hid (HO10.out.more HG13.out (.inr (fun e => by have h1 := HG5.out; simp [Value.ownBlock] at e; omega)))
  have HC13 := Lib.hid (HC10.out.more HG13.out (.inr (fun e => by have h1 := HG5.out; have h2 := HS7.out; have h3 := HS9.out; simp [Value.ownBlock] at e; omega)))
  have HS13 := Lib.hid (show (((w10.setCell ⟨z, 0, none⟩ (.slice (some ⟨c, 0, none⟩) n n)).alloc (.cells #[.slice none 0 0] 49)).alloc (.cells #[.func (.func 18) #[] #[.pointer (some ⟨j, 0, none⟩), .pointer (some ⟨b, 0, none⟩)]] 53)).heap.size = b + 2 from by simp [World.setCell, hb])
  clear hoc hg10 hc HL9 HO9 hcl hV
  go_wp2_with fail
  generalize ((w10.setCell _ _).alloc _).alloc _ = w13 at HL13 HO13 HC13 HS13 ⊢
  have hs8 : s < 8 := by have := HS.out; omega
  have SN := Lib.hid (send_any ls s (-1) j b (.slice none 0 0) [] w13 (HL13.out.all _ (.tail _ (.tail _ (.tail _ (.head _))))) ⟨HL13.out.all _ (.tail _ (.head _)), QC.nil _ _ _ _, fun k hk => by simp [Value.ownBlock] at hk⟩ hs8 (by simp))
  clear hmk z0 z1 hb HL10 HO10 HC10 HG13
  refine SN.out.mono ?_; rintro e w14 ⟨rfl, v14, hq14, hm14⟩
  rw [List.nil_append] at hq14
  have HQ14 := Lib.hid hq14
  have HM14 := Lib.hid hm14
  have HOM := Lib.hid hm14.own
  have HS14 := Lib.hid (show b + 2 ≤ w14.heap.size from by rw [← HS13.out]; exact hm14.size)
  have HN14 := Lib.hid (show ∀ k, v14.ownBlock = some k → b + 2 ≤ k from fun k hk => by
    rcases hm14.own k hk with h | h
    · simp [Value.ownBlock] at h
    · rw [HS13.out] at h; exact h)
  have hL : Got w w14 z _ := (HL13.out.mono (L' := [(b + 1, 53, [.func (.func 18) #[] #[.pointer (some ⟨j, 0, none⟩), .pointer (some ⟨b, 0, none⟩)]]), (z, 25, [Value.slice (some ⟨c, 0, none⟩) n n]), (j, 45, jar (jn ls)), (gb, 25, [.slice (some ⟨gh, 0, none⟩) n ch]), (z + 1, 3, [.int .i64 0])]) (fun x hx => by
      simp only [List.mem_cons, List.not_mem_nil, or_false] at hx
      rcases hx with rfl | rfl | rfl | rfl | rfl
      · exact .head _
      · exact .tail _ (.tail _ (.head _))
      · exact .tail _ (.tail _ (.tail _ (.head _)))
      · exact .tail _ (.tail _ (.tail _ (.tail _ (.head _))))
      · exact .tail _ (.tail _ (.tail _ (.tail _ (.tail _ (.head _))))))).mv hm14 (by have h1 := HG5.out; have h2 := HS7.out; have h3 := HS9.out; have h4 := HCB.out; have h5 := HS13.out; omega) (by have h1 := HG5.out; have h2 := HS7.out; have h3 := HS9.out; have h4 := HCB.out; omega) (fun x hx => by
      have h1 := HG5.out; have h2 := HS7.out; have h3 := HS9.out; have h4 := HCB.out
      simp only [List.mem_cons, List.not_mem_nil, or_false] at hx
      rcases hx with rfl | rfl | rfl | rfl | rfl <;> (simp only []; omega))
  have HL14 := Lib.hid hL
  have HO14 := Lib.hid (own_mv HO13.out hm14 (by have h1 := HG5.out; have h2 := HS7.out; have h3 := HS9.out; have h4 := HCB.out; omega))
  have HC14 := Lib.hid (own_mv HC13.out hm14 (by have h4 := HCB.out; omega))
  clear hL hq14 hm14 SN HL13 HO13 HC13 HS13
  go_wp2_with fail
  obtain ⟨x, hx⟩ : ∃ x, w14.heap.size = x := ⟨_, rfl⟩
  have HX := Lib.hid (show b + 2 ≤ x from by rw [← hx]; exact HS14.out)
  have HV14 := Lib.hid (show ∀ k, v14.ownBlock = some k → k < x from fun k hk => by rw [← hx]; exact HQ14.out.lt k hk)
  obtain ⟨BB, hBB⟩ : ∃ BB : Bs, BB = ⟨z, gh, gb, j, c, b, b + 1, x, ch⟩ := ⟨_, rfl⟩
  have HOK := Lib.hid (show BB.Ok from by
    have h1 := HG5.out; have h2 := HS7.out; have h3 := HS9.out; have h4 := HCB.out; have h5 := HX.out
    subst hBB
    exact ⟨by simp only []; omega, by simp only []; omega, by simp only []; omega, by simp only []; omega, by simp only []; omega, by simp only []; omega, by simp only []; omega⟩)
  have HST := Lib.hid (show St w BB n ls s 0 (fun _ => 0) v14 (snd ls s (-1) 8) (w14.alloc (.cells #[.pointer (some ⟨b, 0, none⟩)] 63)) from by
    have h1 := HG5.out; have h2 := HS7.out; have h3 := HS9.out; have h4 := HCB.out; have h5 := HX.out
    have hL := HL14.out.alloc (by omega) 63 [.pointer (some ⟨b, 0, none⟩)]
    rw [hx] at hL
    subst hBB
    refine ⟨hL.bel, hL.all _ (.tail _ (.tail _ (.head _))), hL.all _ (.tail _ (.tail _ (.tail _ (.tail _ (.tail _ (.head _)))))), hL.all _ (.tail _ (.tail _ (.tail _ (.tail _ (.head _))))), ?_, hL.all _ (.tail _ (.tail _ (.tail _ (.head _)))), ?_, hL.all _ (.tail _ (.head _)), hL.all _ (.head _), ?_, fun k hk => ?_⟩
    · exact HO14.out.alloc _
    · rw [cps_zero]
      exact own_mono (HC14.out.alloc _) (by simp only []; omega)
    · exact HQ14.out.grown (World.grownBy_alloc _ _ none) (by simp) (by simp)
    · have h6 := HN14.out k hk
      have h7 := HV14.out k hk
      simp only []
      omega)
  refine (all_any b w14).mono ?_; rintro e w15 ⟨rfl, hw15⟩
  rw [hw15] at HST
  have HXD := Lib.hid (show x < w15.heap.size from by rw [← hw15, World.size_alloc, hx]; omega)
  have HZ15 := Lib.hid (show z ≤ w15.heap.size from by rw [← hw15, World.size_alloc, hx]; have h1 := HG5.out; have h2 := HS7.out; have h3 := HS9.out; have h4 := HCB.out; have h5 := HX.out; omega)
  rw [hx]
  have HA := Lib.hid (show Ask x b (FI w BB n ls s) (FP w BB n ls s) from by
    have h := fi_ask (w := w) (B := BB) (s := s) HG.out HOK.out (by rw [hBB]; exact hzw)
    rw [show BB.x = x from by rw [hBB], show BB.b = b from by rw [hBB]] at h
    exact h)
  have HBB := Lib.hid hBB
  clear hw15 hx HL14 HO14 HC14 HQ14 HM14 HOM hBB
  go_wp2_with fail
  refine (wpIn_wide (n := 0)).1 ?_
  refine wp_iterQ (bx := x) (b := b) (w := w15) rfl (FI w BB n ls s) (FP w BB n ls s) HA.out rfl (fun k v F => fi_abide HOK.out (by rw [HBB.out]; exact hzw) (by rw [HBB.out]; exact HZ15.out) k v F) (fun k d v F => fp_abide HOK.out (by rw [HBB.out]; exact hzw) (by rw [HBB.out]; exact HZ15.out) k d v F) 0 v14 _ ⟨[s], _, fly_start HG.out HS.out, HST.out⟩
    (fun d G => { tmps := #[.int .i64 (n : Int), .slice p m cap, .int .i64 (s : Int), undef, undef, undef, .pointer (some ⟨z, 0, none⟩), .pointer (some ⟨z + 1, 0, none⟩), .nilIface, .nilIface, .pointer (some ⟨gb, 0, none⟩), .pointer (some ⟨j, 0, none⟩), .pointer (some ⟨b, 0, none⟩), .pointer (some ⟨b + 1, 0, none⟩), .pointer (some ⟨G, 0, none⟩), .int .i64 (n : Int), .slice p m cap, .int .i64 (s : Int), .slice (some ⟨z + 1 + 1, 0, none⟩) 1 1, .nilIface, .nilIface, .bool false, undef, .tuple #[.slice (some ⟨gh, 0, none⟩) n ch, .nilIface], .int .i64 (n : Int), .slice p m cap, .int .i64 (s : Int), .tuple #[.slice (some ⟨gh, 0, none⟩) n ch, .nilIface], .slice (some ⟨gh, 0, none⟩) n ch, .nilIface, .nilIface, .bool false, undef, .slice p m cap, .agg V, .int .i64 (n : Int), .slice (some ⟨c, 0, none⟩) n n, .func (.func 18) #[] #[.pointer (some ⟨j, 0, none⟩), .pointer (some ⟨b, 0, none⟩)], .func (.func 18) #[] #[.pointer (some ⟨j, 0, none⟩), .pointer (some ⟨b, 0, none⟩)], .int .i64 (s : Int), .tuple #[], .func (.func 25) #[] #[.pointer (some ⟨x, 0, none⟩)], .agg #[.int .i64 (d.src : Int), .int .i64 (d.dst : Int)], undef, undef, undef, undef, undef, undef, undef, undef, undef, undef, undef, undef, undef, undef, undef, undef, undef, undef, undef, undef, undef, undef, undef, undef, undef], defers := [] }) ?assign ?body ?done
  case assign =>
    intro l' d W' K' hKK
    clear HST HA
    gi_wp2
    exact hKK
  case body =>
    rintro l' k d v F W0 W hw0 ⟨P0, C0, hfly0, hst0⟩ hsz hcell ⟨P, C, hfly, hst⟩
    clear HST HA
    have hBB := HBB.out
    clear HBB
    subst hBB
    obtain ⟨o1, o2, o3, o4, o5, o6, o7⟩ := HOK.out
    simp only [] at o1 o2 o3 o4 o5 o6 o7
    obtain ⟨G, hG⟩ : ∃ G, W0.heap.size = G := ⟨_, rfl⟩
    have hxG : x < G := by rw [← hG]; exact hst0.box.lt
    rw [hG] at hsz hcell ⊢
    obtain ⟨hds, hdd⟩ := hfly.lt HG.out
    have hsm := hfly.small HG.out hdd
    have hk64 := hfly.top HG.out
    rw [List.length_cons] at hk64
    have HB1 := Lib.hid (show Blk 52 W G (sdc d) from hcell)
    have HFLY := Lib.hid hfly
    have HST := Lib.hid hst
    obtain ⟨C', hC'⟩ : ∃ C' : Nat → Nat, C' = fun i => if i = d.dst then C d.dst + 1 else C i := ⟨_, rfl⟩
    have HC1 := Lib.hid (show C' d.dst = C d.dst + 1 from by rw [hC']; exact if_pos rfl)
    have HC2 := Lib.hid (show ∀ i, i ≠ d.dst → C' i = C i from fun i hi => by rw [hC']; exact if_neg hi)
    have HST2 := Lib.hid (hst.come HOK.out hzw hdd (by omega) HC1.out HC2.out)
    have c0 := hst.res.cell 0 _ rfl
    have c1 := HB1.out.cell 1 _ rfl
    have c2 := own_cell hst.cnt d.dst (by rw [cps_len]; exact hdd)
    rw [cps_get n C hdd] at c2
    have c3 := own_fz hst.cnt d.dst
    have c4 := hst.num.cell 0 _ rfl
    have c5 := hst.num.fz 0
    simp only [] at c0 c1 c2 c3 c4 c5
    have hdd' : (d.dst : Int) < (n : Int) := by omega
    obtain ⟨cc, hcc⟩ : ∃ cc, C d.dst = cc := ⟨_, rfl⟩
    rw [hcc] at c2 hsm HST2
    have HCC := Lib.hid hcc
    have w1 : IntKind.i64.wrap ((cc : Int) + 1) = (cc : Int) + 1 := wrap_in (by omega)
    have w2 : IntKind.i64.wrap ((k : Int) + 1) = (k : Int) + 1 := wrap_in (by omega)
    have n1 : z + 1 ≠ c := by omega
    have n2 : c ≠ z + 1 := by omega
    have PQF : ∀ a W3, (KeepsOthers W W3 ∧ ∃ v F, FI w ⟨z, gh, gb, j, c, b, b + 1, x, ch⟩ n ls s (k + 1) v F W3) → bpostQ (FI w ⟨z, gh, gb, j, c, b, b + 1, x, ch⟩ n ls s) (k + 1) W .normal a W3 := fun _ _ h => h
    have HPQ := Lib.hid PQF
    clear hst0 hfly0 hcell hfly hst hC' hcc hG hw0 PQF
    generalize bpostQ (FI w ⟨z, gh, gb, j, c, b, b + 1, x, ch⟩ n ls s) (k + 1) W = PQ at HPQ ⊢
    gi_wp2
    have HKO := Lib.hid (fun m => ko_come (W := W) ⟨c, d.dst, none⟩ ⟨z + 1, 0, none⟩ (.int .i64 ((cc : Int) + 1)) (.int .i64 ((k : Int) + 1)) m)
    have HB2 := Lib.hid ((HB1.out.other c d.dst (.int .i64 ((cc : Int) + 1)) (by omega)).other (z + 1) 0 (.int .i64 ((k : Int) + 1)) (by omega))
    obtain ⟨W2, hW2⟩ : ∃ W2, (W.setCell ⟨c, d.dst, none⟩ (.int .i64 ((cc : Int) + 1))).setCell ⟨z + 1, 0, none⟩ (.int .i64 ((k : Int) + 1)) = W2 := ⟨_, rfl⟩
    rw [hW2] at HKO HB2 HST2 ⊢
    have e0 := HB2.out.cell 0 _ rfl
    have e1 := HB2.out.cell 1 _ rfl
    have e2 := HST2.out.nxt.cell 0 _ rfl
    have e3 := own_cell HST2.out.hop d.dst (by rw [rw1_len]; exact hdd)
    rw [rw1_get _ _ hdd] at e3
    have e4 := HST2.out.fn.cell 0 _ rfl
    simp only [] at e0 e1 e2 e3 e4
    clear c0 c1 c2 c3 c4 c5 w1 w2 HB1 HST hW2
    obtain ⟨y, hy⟩ : ∃ y, hop ls d.dst s = y := ⟨_, rfl⟩
    rw [hy] at e3
    have HY := Lib.hid hy
    clear hy
    by_cases he : (d.src : Int) = y
    · have t1 : ((d.src : Int) == y) = true := beq_iff_eq.2 he
      have HF := Lib.hid (HFLY.out.pass HG.out HC1.out HC2.out (by rw [HY.out, he]))
      have SN := Lib.hid (fun m => send_any ls d.dst (d.src : Int) j b v F (W2.drewN m) (HST2.out.drewN m).jnd (HST2.out.drewN m).q (by omega) (by omega))
      clear he hk64
      refine wpIn_quiet_round (F := Fence.wide) rfl rfl (by kernel_rfl) (by kernel_rfl) ?_
      repeat (gi_big_quiet_step (fail))
      refine wpQuietIn_nil ?_
      intro _ hw'
      obtain ⟨nq, hw''⟩ := hw'
      subst hw''
      gi_wp2_with (refine ⟨trivial, rfl, ?_⟩
                   gi_at_call 18
                   refine (CallsIn.inRound _ (callsIn_wide.2 (SN.out _))).mono ?_
                   rintro e W3 ⟨rfl, v3, hq3, hm3⟩)
      refine HPQ.out _ _ ?_
      exact ⟨(HKO.out _).trans (ko_mv (HST2.out.drewN _).q hm3), v3, _, _, C', HF.out, (HST2.out.drewN _).queue HOK.out hzw hm3 hq3⟩
    · have t1 : ((d.src : Int) == y) = false := beq_eq_false_iff_ne.2 he
      have HF := Lib.hid (HFLY.out.drop HC1.out HC2.out (by rw [HY.out]; exact fun e => he e.symm))
      clear he
      refine wpIn_quiet_round (F := Fence.wide) rfl rfl (by kernel_rfl) (by kernel_rfl) ?_
      repeat (gi_big_quiet_step (fail))
      refine wpQuietIn_nil ?_
      intro _ hw'
      obtain ⟨nq, hw''⟩ := hw'
      subst hw''
      gi_wp2
      refine HPQ.out _ _ ?_
      exact ⟨HKO.out _, v, F, _, C', HF.out, HST2.out.drewN _⟩
  case done =>
    rintro D k v W hD ⟨P, C, hfly, hst⟩ hKD
    clear HST HA
    have hBB := HBB.out
    clear HBB
    subst hBB
    have hDz : z + 1 < D := by have h1 := hst.num.lt; have h2 := HZ15.out; have h3 := HG5.out; have h4 := HS7.out; have h5 := HS9.out; have h6 := HCB.out; have h7 := HX.out; have h8 := HXD.out; omega
    have HFLY := Lib.hid hfly
    have HST := Lib.hid hst
    have c0 := hst.res.cell 0 _ rfl
    have c1 := hst.res.fz 0
    have c4 := hst.num.cell 0 _ rfl
    have c5 := hst.num.fz 0
    simp only [] at c0 c1 c4 c5
    have HKD := Lib.hid hKD
    clear hKD hst hfly
    go_wp2_with fail
    go_region
    have hcg := HG5.out
    have hcs7 := HS7.out
    have hcs9 := HS9.out
    have gA : W.grownBy (W.setCell ⟨z, 0, none⟩ (.slice (some ⟨c, 0, none⟩) n n)) (some z) := set_grown W z 0 _
    have gB := set_grown (W.setCell ⟨z, 0, none⟩ (.slice (some ⟨c, 0, none⟩) n n)) (z + 1) 0 (.int .i64 (k : Int))
    have hY1 : Blk 25 ((W.setCell ⟨z, 0, none⟩ (.slice (some ⟨c, 0, none⟩) n n)).setCell ⟨z + 1, 0, none⟩ (.int .i64 (k : Int))).drew z [.slice (some ⟨c, 0, none⟩) n n] := ((HST.out.res.set 0 (.slice (some ⟨c, 0, none⟩) n n)).other (z + 1) 0 _ (by simp only []; omega)).drew
    have hY2 : Blk 3 ((W.setCell ⟨z, 0, none⟩ (.slice (some ⟨c, 0, none⟩) n n)).setCell ⟨z + 1, 0, none⟩ (.int .i64 (k : Int))).drew (z + 1) [.int .i64 (k : Int)] := ((HST.out.num.other z 0 (.slice (some ⟨c, 0, none⟩) n n) (by simp only []; omega)).set 0 (.int .i64 (k : Int))).drew
    have hlD : D < W.heap.size := (Array.getElem?_eq_some_iff.1 HKD.out).1
    have hY3 : ((W.setCell ⟨z, 0, none⟩ (.slice (some ⟨c, 0, none⟩) n n)).setCell ⟨z + 1, 0, none⟩ (.int .i64 (k : Int))).drew.heap[D]? = some (.deferred (some [])) :=
      (gB.block D (Nat.lt_of_lt_of_le hlD gA.size) (fun e => by cases e; omega)).trans ((gA.block D hlD (fun e => by cases e; omega)).trans HKD.out)
    have hY4 : Below z w ((W.setCell ⟨z, 0, none⟩ (.slice (some ⟨c, 0, none⟩) n n)).setCell ⟨z + 1, 0, none⟩ (.int .i64 (k : Int))).drew := bdrewN (below_set (below_set HST.out.bel _ _ _ (Nat.le_refl _)) _ _ _ (by simp only []; omega)) 1
    have hY5 : OwnI ((W.setCell ⟨z, 0, none⟩ (.slice (some ⟨c, 0, none⟩) n n)).setCell ⟨z + 1, 0, none⟩ (.int .i64 (k : Int))).drew z (.slice (some ⟨c, 0, none⟩) n n) (cps n C) :=
      ((HST.out.cnt.more gA (.inr (fun e => by simp [Value.ownBlock] at e; omega))).more gB (.inr (fun e => by simp [Value.ownBlock] at e; omega))).drew
    have HY1 := Lib.hid (hY1.cell 0 _ rfl)
    have HY2 := Lib.hid (hY2.cell 0 _ rfl)
    have HY3 := Lib.hid hY3
    have HY4 := Lib.hid hY4
    have HY5 := Lib.hid hY5
    clear c0 c1 c4 c5 gA gB hY1 hY2 hY3 hY4 hY5 hcg hcs7 hcs9
    generalize ((W.setCell ⟨z, 0, none⟩ (.slice (some ⟨c, 0, none⟩) n n)).setCell ⟨z + 1, 0, none⟩ (.int .i64 (k : Int))).drew = Y at HY1 HY2 HY3 HY4 HY5 ⊢
    go_wp2_with fail
    have hend := HFLY.out.ended HG.out
    have hrow : ∀ r, some D = some r → ∃ o : Obj, Y.heap[r]? = some o ∧ o.isCells = false := fun r e => by cases e; exact ⟨_, HY3.out, rfl⟩
    refine ⟨by simp, .inl ⟨_, _, rfl, run_takeDeferred HY3.out, ?_⟩⟩
    refine ⟨_, results_cct rfl Tryd.underlying25 Tryd.underlying3 rfl rfl _ _ _ _ rfl rfl (.slice (some ⟨c, 0, none⟩) n n) (.int .i64 (k : Int)) .nilIface rfl (cell_kept HY1.out (grownBy_putObj' Y D _) hrow) (cell_kept HY2.out (grownBy_putObj' Y D _) hrow), .slice (some ⟨c, 0, none⟩) n n, ?_, ?_, ?_⟩
    · rw [← hend.2]
    · rw [HZ.out, ← cps_congr hend.1]
      exact HY5.out.more (grownBy_putObj' Y D _) (not_own (fun g hg => no_cells (w' := Y) (own_cells HY5.out g hg).choose_spec.1 (own_cells HY5.out g hg).choose_spec.2 hrow))
    · rw [HZ.out]
      exact HY4.out.grown (grownBy_putObj' Y D _) (by have := HY4.out.size; omega) (fun r e => by cases e; omega)
end Go.Proofs.YtedhippamfioeaaDoor.Rpf
