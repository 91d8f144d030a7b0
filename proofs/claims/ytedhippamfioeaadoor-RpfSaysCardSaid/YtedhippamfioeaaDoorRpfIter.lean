/- Package rpf: the law of a range over all that is in the queue, whose body puts more into it. No statement is proved here. -/
import Derived.Test.YtedhippamfioeaaDoorRpfPut
import Derived.Test.YtedhippamfioeaaDoorOwnI
import Derived.Test.YtedhippamfioeaaDoorIter
import Derived.Outline
import Derived.WalkLawsBesides
import Derived.RegionTactic
import Derived.ChangeAlike
import Derived.BigRegionIn
import Derived.Sort.LoopGhostIn
namespace Go.Proofs.YtedhippamfioeaaDoor.Rpf
open Go.ChangeShapes Go.WideShapes Go.ChangeAt Go.RowKit Go.Shelf Go.Proofs.YtedhippamfioeaaDoor.Kit Go.Proofs.YtedhippamfioeaaDoor.App Go.Proofs.YtedhippamfioeaaDoor.Cells Go.Proofs.YtedhippamfioeaaDoor.Err Go.Proofs.YtedhippamfioeaaDoor.It
set_option linter.unusedVariables false
set_option maxRecDepth 100000
set_option maxHeartbeats 1000000
attribute [local go_sem] Oper.semAt_some

/-- The first of the queue: what the walk reads, and what is left. -/
theorem Qs.head {w : World} {b : Nat} {v : Value} {d : Sd} {F : List Sd} (h : Qs w b v (d :: F)) : ∃ g off cap q c1, v = .slice (some ⟨g, off, none⟩) (F.length + 1) cap ∧ w.cell? ⟨g, off, none⟩ = some (.int .i64 (d.src : Int)) ∧ w.cell? ⟨g, off + 1, none⟩ = some (.int .i64 (d.dst : Int)) ∧
    (∀ W, (Instr.slice 47 (.slice (some ⟨g, off, none⟩) (F.length + 1) cap) (some (.int .i64 1)) none none).run Tryd.prog W = .ok (.slice q F.length c1) W) ∧ g ≠ b ∧ g < w.heap.size ∧ (Value.slice q F.length c1).ownBlock = some g ∧
    ∀ w' : World, w.grownBy w' (some b) → Blk 49 w' b [.slice q F.length c1] → Qs w' b (.slice q F.length c1) F := by
  have ho := h.own
  obtain ⟨v', h1, h2, h3⟩ := ho.tail tyS elS
  obtain ⟨q, c1, e1, _⟩ := (h3 w (fun _ _ => rfl)).form
  obtain ⟨p, cap, e2, hi⟩ := ho.form
  obtain ⟨g, off, rfl, hlt, hc⟩ := hi.2.2 (by simp)
  have hc0 := hc 0 d rfl 0 _ rfl
  have hc1 := hc 0 d rfl 1 _ rfl
  rw [Nat.zero_mul, Nat.zero_add, Nat.add_zero] at hc0
  rw [Nat.zero_mul, Nat.zero_add] at hc1
  subst e1
  rw [List.length_cons] at e2
  have hb : v.ownBlock = some g := by rw [e2]; rfl
  have hne := h.ne g hb
  refine ⟨g, off, cap, q, c1, e2, hc0, hc1, by rw [e2] at h1; exact h1, hne, hlt, h2.trans hb, fun w' hg hB => ⟨hB, h3 w' (fun k hk => hg.block k ?_ ?_), fun k hk => ?_⟩⟩
  · rw [hb] at hk; injection hk with hk; omega
  · rw [hb] at hk; injection hk with hk; exact fun e => hne (by injection e with e; omega)
  · rw [h2, hb] at hk; injection hk with hk; omega

/-- What lies between two rounds (J), and when the first is taken out (Jp): bx holds the queue's place, b the queue. -/
structure Ask (bx b : Nat) (J : Nat → Value → List Sd → World → Prop) (Jp : Nat → Sd → Value → List Sd → World → Prop) : Prop where
  box : ∀ k v F W, J k v F W → W.cell? ⟨bx, 0, none⟩ = some (.pointer (some ⟨b, 0, none⟩)) ∧ Qs W b v F ∧ k + F.length ≤ 64 ∧ bx ≠ b
  pop : ∀ k v d F v' W W', J k v (d :: F) W → W.grownBy W' (some b) → Qs W' b v' F → v'.ownBlock = v.ownBlock → Jp k d v' F W'

theorem all1_in (l bx b : Nat) (J : Nat → Value → List Sd → World → Prop) (Jp : Nat → Sd → Value → List Sd → World → Prop) (hA : Ask bx b J Jp)
    (hY : ∀ k d v F W1, Jp k d v F W1 → YieldAt Fence.wide 0 Tryd.prog l #[.agg #[.int .i64 (d.src : Int), .int .i64 (d.dst : Int)]] W1 fun e W' => e = .returned (.bool true) ∧ ∃ v' F', J (k + 1) v' F' W')
    (k : Nat) (v : Value) (F : List Sd) (W : World) (h0 : J k v F W) :
    CallsIn Fence.wide 0 Tryd.prog 25 #[.func (.yield l) #[] #[], .pointer (some ⟨bx, 0, none⟩)] W fun e W' => (∃ v, e = .returned v) ∧ ∃ k v, J k v [] W' := by
  refine callsIn_of_wp Tryd.func25 rfl trivial ?_ rfl
  simp only [Tryd.ntmps25, List.size_toArray, List.length_cons, List.length_nil, Nat.reduceAdd, Nat.reduceSub, Array.replicate_succ, Array.replicate_zero, List.push_toArray, List.append_toArray, List.nil_append, List.cons_append]
  have HY := Lib.hid hY
  have HA := Lib.hid hA
  have h64 := (hA.box k v F W h0).2.2.1
  have H0 := Lib.hid h0
  clear hY hA h0
  gi_wp2
  gi_loopg [3] (64 - k) (fun gk _ wr => ∃ k v F, gk + k = 64 ∧ Hid (J k v F wr))
  case atStart => exact ⟨k, v, F, by omega, H0⟩
  case round =>
    obtain ⟨k', v', F', hgk, HJ⟩ := hrel
    obtain ⟨c0, hq, hk64, hbb⟩ := HA.out.box _ _ _ _ HJ.out
    have HG := Lib.hid hgk
    clear H0 h64 hgk
    cases F' with
    | nil =>
      obtain ⟨p, c, rfl, _⟩ := hq.own.form
      have b0 := hq.blk.cell 0 _ rfl
      clear hq
      simp only [List.length_nil] at *
      gi_wp2
      go_end0
      exact ⟨⟨_, rfl⟩, _, _, HJ.out⟩
    | cons d F' =>
      have HQ := Lib.hid hq
      have b0 := hq.blk.cell 0 _ rfl
      have f0 := hq.blk.fz 0
      have hbl := hq.blk.lt
      obtain ⟨g, off, cap, q, c1, rfl, x0, x1, hsl, hgb, hgl, hob, hT⟩ := hq.head
      have HT := Lib.hid hT
      have HOB := Lib.hid hob
      obtain ⟨z, hz⟩ : ∃ z, wr.heap.size = z := ⟨_, rfl⟩
      have hbz : b < z := by rw [← hz]; exact hbl
      have hne : b ≠ z := by omega
      have hne2 : z ≠ b := by omega
      obtain ⟨m, hm⟩ : ∃ m, F'.length = m := ⟨_, rfl⟩
      rw [List.length_cons] at hk64
      have HM := Lib.hid hm
      rw [hm] at b0 hsl HT HOB hk64
      have t0 : decide (0 < ((m + 1 : Nat) : Int)) = true := decide_eq_true (by omega)
      have t1 : 0 < m + 1 := by omega
      clear hq hT hob hbl hm
      gi_wp2
      obtain ⟨W1, hW1⟩ : ∃ W1, wr.alloc (.cells #[.int .i64 (d.src : Int), .int .i64 (d.dst : Int)] 52) = W1 := ⟨_, rfl⟩
      have hg1 : wr.grownBy W1 (some b) := by rw [← hW1]; exact World.grownBy_alloc _ _ _
      have HB1 := Lib.hid (show Blk 49 W1 b [.slice (some ⟨g, off, none⟩) (m + 1) cap] from by rw [← hW1, ← HM.out]; exact HQ.out.blk.alloc _)
      have HX1 := Lib.hid (show Blk 52 W1 z (sdc d) from by rw [← hW1, ← hz]; exact Blk.new wr _ _)
      have d0 : W1.cell? ⟨bx, 0, none⟩ = some (.pointer (some ⟨b, 0, none⟩)) := by rw [← hW1]; exact box_keep c0 (World.grownBy_alloc _ _ _) hbb
      have d1 := HB1.out.cell 0 _ rfl
      have d2 := HB1.out.fz 0
      have d3 := HX1.out.cell 0 _ rfl
      have d4 := HX1.out.cell 1 _ rfl
      have HG1 := Lib.hid hg1
      rw [hW1]
      clear c0 b0 f0 x0 x1 hW1 hg1
      gi_region
      obtain ⟨W2, hW2⟩ : ∃ W2, (W1.setCell ⟨b, 0, none⟩ (.slice q m c1)).drew = W2 := ⟨_, rfl⟩
      have hg2 : wr.grownBy W2 (some b) := by rw [← hW2]; exact grown_drew (grown_set HG1.out 0 _)
      have hQ2 : Qs W2 b (.slice q m c1) F' := by
        have h := HT.out W2 hg2
        refine h ?_
        rw [← hW2]
        exact (HB1.out.set 0 _).drew
      have e3 : W2.cell? ⟨z, 0, none⟩ = some (.int .i64 (d.src : Int)) := by
        rw [← hW2]; exact (HX1.out.other b 0 _ hne2).drew.cell 0 _ rfl
      have e4 : W2.cell? ⟨z, 1, none⟩ = some (.int .i64 (d.dst : Int)) := by
        rw [← hW2]; exact (HX1.out.other b 0 _ hne2).drew.cell 1 _ rfl
      obtain ⟨fn, tmps, asg, body, hy, hR⟩ := HY.out _ _ _ _ _ (HA.out.pop _ _ _ _ (.slice q m c1) _ W2 HJ.out hg2 hQ2 (by rw [HOB.out]; rfl))
      rw [hW2]
      clear d0 d1 d2 d3 d4 hW2 hg2 hQ2 hsl
      gi_wp2
      refine ⟨rfl, hR.mono ?_⟩
      rintro e W3 ⟨rfl, v3, F3, hJ3⟩
      have HJ3 := Lib.hid hJ3
      clear hJ3 e3 e4
      gi_wp2
      gi_roundg (64 - (k' + 1))
      case measure => have := HG.out; omega
      case rel => exact ⟨k' + 1, v3, F3, by omega, HJ3⟩
end Go.Proofs.YtedhippamfioeaaDoor.Rpf
namespace Go.Proofs.YtedhippamfioeaaDoor.Rpf
open Go.ChangeShapes Go.WideShapes Go.ChangeAt Go.RowKit Go.Shelf Go.Proofs.YtedhippamfioeaaDoor.Kit Go.Proofs.YtedhippamfioeaaDoor.App Go.Proofs.YtedhippamfioeaaDoor.Cells Go.Proofs.YtedhippamfioeaaDoor.Err Go.Proofs.YtedhippamfioeaaDoor.It
set_option linter.unusedVariables false
set_option maxRecDepth 20000
set_option maxHeartbeats 1000000

/-- How the body of a round is left. -/
def bpostQ (I : Nat → Value → List Sd → World → Prop) (k : Nat) (W : World) : Exit → Act → World → Prop
  | .normal, _, W' => KeepsOthers W W' ∧ ∃ v F, I k v F W'
  | .ret, _, _ => False
  | .exit _, _, _ => False
  | .goto _, _, _ => False
  | .panic _, _, _ => False
  | .outgrown, _, _ => False

/-- What is said of the world abides the turn of a block that is no cells, from B on. -/
def Abide (B : Nat) (p : World → Prop) : Prop := ∀ W W' row, p W → W.grownBy W' row → (∀ r, row = some r → B ≤ r ∧ ∃ o : Obj, W.heap[r]? = some o ∧ o.isCells = false) → p W'
theorem Abide.alloc {B : Nat} {p : World → Prop} (h : Abide B p) {W : World} (hp : p W) (o : Obj) : p (W.alloc o) := h W _ none hp (World.grownBy_alloc W o none) (fun r e => by cases e)
theorem Abide.putObj {B : Nat} {p : World → Prop} (h : Abide B p) {W : World} {l : Nat} {o : Obj} (o' : Obj) (hp : p W) (hB : B ≤ l) (hl : W.heap[l]? = some o) (ho : o.isCells = false) : p (W.putObj l o') :=
  h W _ (some l) hp (grownBy_putObj' W l o') (fun r e => by cases e; exact ⟨hB, o, hl, ho⟩)

theorem wp_iterQ {g : Operand} {ps : Array Tmp} {assign body : Code} {Q : Exit → Act → World → Prop} {a : Act} {w : World} {bx b : Nat}
    (hg : a.eval g = .func (.func 25) #[] #[.pointer (some ⟨bx, 0, none⟩)])
    (I : Nat → Value → List Sd → World → Prop) (Ip : Nat → Sd → Value → List Sd → World → Prop) (hA : Ask bx b I Ip) (hps : ps.size = 1)
    (hI : ∀ k v F, Abide w.heap.size (I k v F)) (hIp : ∀ k d v F, Abide w.heap.size (Ip k d v F)) (k0 : Nat) (v0 : Value) (F0 : List Sd) (h0 : I k0 v0 F0 w) (a₁ : Sd → Nat → Act)
    (hassign : ∀ (l : Nat) (d : Sd) (W : World) (K : Act → World → Prop), K (a₁ d W.heap.size) (W.alloc (.cells #[.int .i64 (d.src : Int), .int .i64 (d.dst : Int)] 52)) →
      assign.wpIn (Fence.wide.inRound l) 0 Tryd.prog (Exit.then K (fun _ _ _ => False)) { tmps := (ps.zip #[.agg #[.int .i64 (d.src : Int), .int .i64 (d.dst : Int)]]).foldl (fun t (p, v) => t.setIfInBounds p v) a.tmps, defers := [] } W)
    (hbody : ∀ (l k : Nat) (d : Sd) (v : Value) (F : List Sd) (W0 W : World), w.heap.size ≤ W0.heap.size → Ip k d v F W0 → W.heap.size = W0.heap.size + 1 → W.heap[W0.heap.size]? = some (.cells #[.int .i64 (d.src : Int), .int .i64 (d.dst : Int)] 52) → Ip k d v F W →
      body.wpIn (Fence.wide.inRound l) 0 Tryd.prog (bpostQ I (k + 1) W) (a₁ d W0.heap.size) W)
    (hdone : ∀ (D k : Nat) (v : Value) (W : World), w.heap.size ≤ D → I k v [] W → W.heap[D]? = some (.deferred (some [])) → Q .normal { a with defers := { target := .collected D, args := #[] } :: a.defers } W) :
    (Code.rangeFunc g ps assign body).wpIn Fence.wide 0 Tryd.prog Q a w := by
  have eg : ∀ args w, (callFunc 25 args).run Tryd.prog w = .ok (.enter 25 args) w := enters_of Tryd.func25 (by kernel_rfl) rfl
  refine wpIn_rangeFunc ?_
  intro fn hfn
  show ∃ (l : Nat) (mark : List Deferred) (w₁ : World) (d : Deferred) (w₁' : World) (f : FuncId) (args : Array Value) (w₂ : World), (Instr.enterLoop fn a.tmps ps assign body none).run Tryd.prog w = _ ∧ _
  obtain ⟨rec, hrec⟩ : ∃ rec : LoopState → Option Code → Loop, rec = fun st pe => { state := st, pending := pe, fn, tmps := a.tmps, params := ps, assign, body, defers := w.heap.size } := ⟨_, rfl⟩
  obtain ⟨W1, hW1⟩ : ∃ W1, (w.alloc (.deferred (some []))).alloc (.loop (rec .ready none)) = W1 := ⟨_, rfl⟩
  have hL1 : W1.heap[w.heap.size + 1]? = some (.loop (rec .ready none)) := by
    rw [← hW1]; have := World.alloc_heap_new (w.alloc (.deferred (some []))) (.loop (rec .ready none)); rwa [World.size_alloc] at this
  have hK1 : W1.heap[w.heap.size]? = some (.deferred (some [])) := by
    rw [← hW1]; exact (Below.heap_alloc _ _ _ (by simp)).trans (World.alloc_heap_new w _)
  have hs1 : W1.heap.size = w.heap.size + 2 := by rw [← hW1]; simp
  have hI1 : I k0 v0 F0 W1 := by rw [← hW1]; exact (hI _ _ _).alloc ((hI _ _ _).alloc h0 _) _
  refine ⟨w.heap.size + 1, [{ target := .collected w.heap.size, args := #[] }], W1, { target := .fn (.func 25) #[.pointer (some ⟨bx, 0, none⟩)], args := #[.func (.yield (w.heap.size + 1)) #[] #[]] }, W1, 25,
    #[.func (.yield (w.heap.size + 1)) #[] #[]] ++ #[.pointer (some ⟨bx, 0, none⟩)], W1, ?_, ?_, ?_, ?_, (fun h => by cases h), ?_⟩
  · rw [← hW1, hrec]; exact run_enterLoop_outer _ _ _ _ _
  · simp only [resolve, hg]
    simp [go_sem]
  · intro f' hf'; exact trivial
  · simp [invoke, go_sem, eg]
  · refine (all1_in (w.heap.size + 1) bx b
      (fun k v F W => I k v F W ∧ W.heap[w.heap.size + 1]? = some (.loop (rec .ready none)) ∧ W.heap[w.heap.size]? = some (.deferred (some [])))
      (fun k d v F W => Ip k d v F W ∧ W.heap[w.heap.size + 1]? = some (.loop (rec .ready none)) ∧ W.heap[w.heap.size]? = some (.deferred (some [])))
      ⟨fun k v F W h => hA.box k v F W h.1, fun k v d F v' W W' h hg' hq hv => ?_⟩ ?_ k0 v0 F0 W1 ⟨hI1, hL1, hK1⟩).mono ?_
    · -- the first is taken out
      have hb := (hA.box _ _ _ _ h.1).2.1.blk
      have hkeep : ∀ {i : Nat} {o : Obj}, o.isCells = false → W.heap[i]? = some o → W'.heap[i]? = some o := fun {i o} ho hi =>
        (hg'.block _ (Array.getElem?_eq_some_iff.1 hi).1 (fun e => by
          injection e with e
          subst e
          have h2 : W.heap[i]? = some (.cells #[v] 49) := hb
          rw [h2] at hi
          injection hi with hi
          rw [← hi] at ho
          cases ho)).trans hi
      exact ⟨hA.pop _ _ _ _ _ _ _ h.1 hg' hq hv, hkeep rfl h.2.1, hkeep rfl h.2.2⟩
    · -- one round
      rintro k d v F W ⟨hi, hl, hkd⟩
      have hlt : w.heap.size + 1 < W.heap.size := (Array.getElem?_eq_some_iff.1 hl).1
      have hy := run_yield (P := Tryd.prog) (args := #[.agg #[.int .i64 (d.src : Int), .int .i64 (d.dst : Int)]]) hl (by rw [hrec]; exact hps.symm)
      rw [hrec] at hy
      have hX : W.grownBy (W.alloc (.cells #[.int .i64 (d.src : Int), .int .i64 (d.dst : Int)] 52)) none := World.grownBy_alloc _ _ _
      have hlX : (W.alloc (.cells #[.int .i64 (d.src : Int), .int .i64 (d.dst : Int)] 52)).heap[w.heap.size + 1]? = some (.loop (rec .ready none)) := (hX.block _ hlt (fun e => by cases e)).trans hl
      have hkX : (W.alloc (.cells #[.int .i64 (d.src : Int), .int .i64 (d.dst : Int)] 52)).heap[w.heap.size]? = some (.deferred (some [])) := (hX.block _ (by omega) (fun e => by cases e)).trans hkd
      have hiX := (hIp k d v F).alloc hi (.cells #[.int .i64 (d.src : Int), .int .i64 (d.dst : Int)] 52)
      have hnX := World.alloc_heap_new W (.cells #[.int .i64 (d.src : Int), .int .i64 (d.dst : Int)] 52)
      have hsX : (W.alloc (.cells #[.int .i64 (d.src : Int), .int .i64 (d.dst : Int)] 52)).heap.size = W.heap.size + 1 := by simp
      refine ⟨fn, _, assign, body, hy, roundIn_of_wpIn hfn (hassign _ d W _ ⟨_, run_beginRound hlX (by rw [hrec]), ?_⟩)⟩
      generalize W.alloc (.cells #[.int .i64 (d.src : Int), .int .i64 (d.dst : Int)] 52) = X at hX hlX hkX hiX hnX hsX
      have hl2 : (X.putObj (w.heap.size + 1) (.loop { rec .ready none with state := .busy })).heap[w.heap.size + 1]? = some (.loop { rec .ready none with state := .busy }) := World.putObj_heap_same (by omega)
      have hk2 : (X.putObj (w.heap.size + 1) (.loop { rec .ready none with state := .busy })).heap[w.heap.size]? = some (.deferred (some [])) := (World.putObj_heap_other (by omega)).trans hkX
      refine wpIn_mono (hbody _ k d v F W _ (by omega) hi (by simp; exact hsX) ((World.putObj_heap_other (by omega)).trans hnX) ((hIp k d v F).putObj _ hiX (by omega) hlX rfl)) ?_
      rintro e a3 W3 hp
      cases e with
      | normal =>
        obtain ⟨hk3, v3, F3, hi3⟩ := hp
        have hl3 := hk3.same _ _ hl2 rfl
        have hd3 := hk3.same _ _ hk2 rfl
        have hr := run_endRound (P := Tryd.prog) none hl3
        rw [hrec] at hr hl3 ⊢
        exact ⟨_, _, hr, rfl, v3, F3, (hI _ _ _).putObj _ hi3 (by omega) hl3 rfl, World.putObj_heap_same (Array.getElem?_eq_some_iff.1 hl3).1, (World.putObj_heap_other (by omega)).trans hd3⟩
      | ret => exact hp.elim
      | exit id => exact hp.elim
      | goto t => exact hp.elim
      | panic ch => exact hp.elim
      | outgrown => exact hp.elim
    · -- behind the iterator
      rintro e W2 ⟨⟨v, rfl⟩, k, v2, hi, hl, hk⟩
      exact ⟨none, _, by have := run_endLoop (P := Tryd.prog) hl (by rw [hrec]; simp); rw [hrec] at this; exact this, hdone _ _ _ _ (Nat.le_refl _) ((hI _ _ _).putObj _ hi (by omega) hl rfl) ((World.putObj_heap_other (by omega)).trans hk)⟩
end Go.Proofs.YtedhippamfioeaaDoor.Rpf
