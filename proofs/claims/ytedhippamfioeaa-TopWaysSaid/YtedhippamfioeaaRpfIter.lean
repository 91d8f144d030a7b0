/- Package rpf: the law of a range over all that is in the queue, whose body puts more into it. No statement is proved here. -/
import Derived.Test.YtedhippamfioeaaRpfAll1
namespace Go.Proofs.Ytedhippamfioeaa.Rpf
open Go.ChangeShapes Go.WideShapes Go.ChangeAt Go.RowKit Go.Shelf Go.Proofs.Ytedhippamfioeaa.Kit Go.Proofs.Ytedhippamfioeaa.App Go.Proofs.Ytedhippamfioeaa.Cells Go.Proofs.Ytedhippamfioeaa.Err Go.Proofs.Ytedhippamfioeaa.It
set_option linter.unusedVariables false
set_option maxRecDepth 20000
set_option maxHeartbeats 1000000

/-- How the body of a round is left. -/
def bpostQ (I : Nat → Value → List Sd → World → Prop) (k : Nat) (W : World) : Exit → Act → World → Prop
  | .normal, _, W' => KeepsOthers W W' ∧ ∃ v F, I k v F W'
  | .ret, _, _ => False
  | .exit _, _, _ => False
  | .goto _, _, _ => False
  | .panic _, _, _ => False
  | .outgrown, _, _ => False

/-- What is said of the world abides the turn of a block that is no cells, from B on. -/
def Abide (B : Nat) (p : World → Prop) : Prop := ∀ W W' row, p W → W.grownBy W' row → (∀ r, row = some r → B ≤ r ∧ ∃ o : Obj, W.heap[r]? = some o ∧ o.isCells = false) → p W'
theorem Abide.alloc {B : Nat} {p : World → Prop} (h : Abide B p) {W : World} (hp : p W) (o : Obj) : p (W.alloc o) := h W _ none hp (World.grownBy_alloc W o none) (fun r e => by cases e)
theorem Abide.putObj {B : Nat} {p : World → Prop} (h : Abide B p) {W : World} {l : Nat} {o : Obj} (o' : Obj) (hp : p W) (hB : B ≤ l) (hl : W.heap[l]? = some o) (ho : o.isCells = false) : p (W.putObj l o') :=
  h W _ (some l) hp (grownBy_putObj' W l o') (fun r e => by cases e; exact ⟨hB, o, hl, ho⟩)

theorem wp_iterQ {g : Operand} {ps : Array Tmp} {assign body : Code} {Q : Exit → Act → World → Prop} {a : Act} {w : World} {bx b : Nat}
    (hg : a.eval g = .func (.func 35) #[] #[.pointer (some ⟨bx, 0, none⟩)])
    (I : Nat → Value → List Sd → World → Prop) (Ip : Nat → Sd → Value → List Sd → World → Prop) (hA : Ask bx b I Ip) (hps : ps.size = 1)
    (hI : ∀ k v F, Abide w.heap.size (I k v F)) (hIp : ∀ k d v F, Abide w.heap.size (Ip k d v F)) (k0 : Nat) (v0 : Value) (F0 : List Sd) (h0 : I k0 v0 F0 w) (a₁ : Sd → Nat → Act)
    (hassign : ∀ (l : Nat) (d : Sd) (W : World) (K : Act → World → Prop), K (a₁ d W.heap.size) (W.alloc (.cells #[.int .i64 (d.src : Int), .int .i64 (d.dst : Int)] 58)) →
      assign.wpIn (Fence.wide.inRound l) 0 Try.prog (Exit.then K (fun _ _ _ => False)) { tmps := (ps.zip #[.agg #[.int .i64 (d.src : Int), .int .i64 (d.dst : Int)]]).foldl (fun t (p, v) => t.setIfInBounds p v) a.tmps, defers := [] } W)
    (hbody : ∀ (l k : Nat) (d : Sd) (v : Value) (F : List Sd) (W0 W : World), w.heap.size ≤ W0.heap.size → Ip k d v F W0 → W.heap.size = W0.heap.size + 1 → W.heap[W0.heap.size]? = some (.cells #[.int .i64 (d.src : Int), .int .i64 (d.dst : Int)] 58) → Ip k d v F W →
      body.wpIn (Fence.wide.inRound l) 0 Try.prog (bpostQ I (k + 1) W) (a₁ d W0.heap.size) W)
    (hdone : ∀ (D k : Nat) (v : Value) (W : World), w.heap.size ≤ D → I k v [] W → W.heap[D]? = some (.deferred (some [])) → Q .normal { a with defers := { target := .collected D, args := #[] } :: a.defers } W) :
    (Code.rangeFunc g ps assign body).wpIn Fence.wide 0 Try.prog Q a w := by
  have eg : ∀ args w, (callFunc 35 args).run Try.prog w = .ok (.enter 35 args) w := enters_of Try.func35 (by kernel_rfl) rfl
  refine wpIn_rangeFunc ?_
  intro fn hfn
  show ∃ (l : Nat) (mark : List Deferred) (w₁ : World) (d : Deferred) (w₁' : World) (f : FuncId) (args : Array Value) (w₂ : World), (Instr.enterLoop fn a.tmps ps assign body none).run Try.prog w = _ ∧ _
  obtain ⟨rec, hrec⟩ : ∃ rec : LoopState → Option Code → Loop, rec = fun st pe => { state := st, pending := pe, fn, tmps := a.tmps, params := ps, assign, body, defers := w.heap.size } := ⟨_, rfl⟩
  obtain ⟨W1, hW1⟩ : ∃ W1, (w.alloc (.deferred (some []))).alloc (.loop (rec .ready none)) = W1 := ⟨_, rfl⟩
  have hL1 : W1.heap[w.heap.size + 1]? = some (.loop (rec .ready none)) := by
    rw [← hW1]; have := World.alloc_heap_new (w.alloc (.deferred (some []))) (.loop (rec .ready none)); rwa [World.size_alloc] at this
  have hK1 : W1.heap[w.heap.size]? = some (.deferred (some [])) := by
    rw [← hW1]; exact (Below.heap_alloc _ _ _ (by simp)).trans (World.alloc_heap_new w _)
  have hs1 : W1.heap.size = w.heap.size + 2 := by rw [← hW1]; simp
  have hI1 : I k0 v0 F0 W1 := by rw [← hW1]; exact (hI _ _ _).alloc ((hI _ _ _).alloc h0 _) _
  refine ⟨w.heap.size + 1, [{ target := .collected w.heap.size, args := #[] }], W1, { target := .fn (.func 35) #[.pointer (some ⟨bx, 0, none⟩)], args := #[.func (.yield (w.heap.size + 1)) #[] #[]] }, W1, 35,
    #[.func (.yield (w.heap.size + 1)) #[] #[]] ++ #[.pointer (some ⟨bx, 0, none⟩)], W1, ?_, ?_, ?_, ?_, (fun h => by cases h), ?_⟩
  · rw [← hW1, hrec]; exact run_enterLoop_outer _ _ _ _ _
  · simp only [resolve, hg]
    simp [go_sem]
  · intro f' hf'; exact trivial
  · simp [invoke, go_sem, eg]
  · refine (all1_in (w.heap.size + 1) bx b
      (fun k v F W => I k v F W ∧ W.heap[w.heap.size + 1]? = some (.loop (rec .ready none)) ∧ W.heap[w.heap.size]? = some (.deferred (some [])))
      (fun k d v F W => Ip k d v F W ∧ W.heap[w.heap.size + 1]? = some (.loop (rec .ready none)) ∧ W.heap[w.heap.size]? = some (.deferred (some [])))
      ⟨fun k v F W h => hA.box k v F W h.1, fun k v d F v' W W' h hg' hq hv => ?_⟩ ?_ k0 v0 F0 W1 ⟨hI1, hL1, hK1⟩).mono ?_
    · -- the first is taken out
      have hb := (hA.box _ _ _ _ h.1).2.1.blk
      have hkeep : ∀ {i : Nat} {o : Obj}, o.isCells = false → W.heap[i]? = some o → W'.heap[i]? = some o := fun {i o} ho hi =>
        (hg'.block _ (Array.getElem?_eq_some_iff.1 hi).1 (fun e => by
          injection e with e
          subst e
          have h2 : W.heap[i]? = some (.cells #[v] 55) := hb
          rw [h2] at hi
          injection hi with hi
          rw [← hi] at ho
          cases ho)).trans hi
      exact ⟨hA.pop _ _ _ _ _ _ _ h.1 hg' hq hv, hkeep rfl h.2.1, hkeep rfl h.2.2⟩
    · -- one round
      rintro k d v F W ⟨hi, hl, hkd⟩
      have hlt : w.heap.size + 1 < W.heap.size := (Array.getElem?_eq_some_iff.1 hl).1
      have hy := run_yield (P := Try.prog) (args := #[.agg #[.int .i64 (d.src : Int), .int .i64 (d.dst : Int)]]) hl (by rw [hrec]; exact hps.symm)
      rw [hrec] at hy
      have hX : W.grownBy (W.alloc (.cells #[.int .i64 (d.src : Int), .int .i64 (d.dst : Int)] 58)) none := World.grownBy_alloc _ _ _
      have hlX : (W.alloc (.cells #[.int .i64 (d.src : Int), .int .i64 (d.dst : Int)] 58)).heap[w.heap.size + 1]? = some (.loop (rec .ready none)) := (hX.block _ hlt (fun e => by cases e)).trans hl
      have hkX : (W.alloc (.cells #[.int .i64 (d.src : Int), .int .i64 (d.dst : Int)] 58)).heap[w.heap.size]? = some (.deferred (some [])) := (hX.block _ (by omega) (fun e => by cases e)).trans hkd
      have hiX := (hIp k d v F).alloc hi (.cells #[.int .i64 (d.src : Int), .int .i64 (d.dst : Int)] 58)
      have hnX := World.alloc_heap_new W (.cells #[.int .i64 (d.src : Int), .int .i64 (d.dst : Int)] 58)
      have hsX : (W.alloc (.cells #[.int .i64 (d.src : Int), .int .i64 (d.dst : Int)] 58)).heap.size = W.heap.size + 1 := by simp
      refine ⟨fn, _, assign, body, hy, roundIn_of_wpIn hfn (hassign _ d W _ ⟨_, run_beginRound hlX (by rw [hrec]), ?_⟩)⟩
      generalize W.alloc (.cells #[.int .i64 (d.src : Int), .int .i64 (d.dst : Int)] 58) = X at hX hlX hkX hiX hnX hsX
      have hl2 : (X.putObj (w.heap.size + 1) (.loop { rec .ready none with state := .busy })).heap[w.heap.size + 1]? = some (.loop { rec .ready none with state := .busy }) := World.putObj_heap_same (by omega)
      have hk2 : (X.putObj (w.heap.size + 1) (.loop { rec .ready none with state := .busy })).heap[w.heap.size]? = some (.deferred (some [])) := (World.putObj_heap_other (by omega)).trans hkX
      refine wpIn_mono (hbody _ k d v F W _ (by omega) hi (by simp; exact hsX) ((World.putObj_heap_other (by omega)).trans hnX) ((hIp k d v F).putObj _ hiX (by omega) hlX rfl)) ?_
      rintro e a3 W3 hp
      cases e with
      | normal =>
        obtain ⟨hk3, v3, F3, hi3⟩ := hp
        have hl3 := hk3.same _ _ hl2 rfl
        have hd3 := hk3.same _ _ hk2 rfl
        have hr := run_endRound (P := Try.prog) none hl3
        rw [hrec] at hr hl3 ⊢
        exact ⟨_, _, hr, rfl, v3, F3, (hI _ _ _).putObj _ hi3 (by omega) hl3 rfl, World.putObj_heap_same (Array.getElem?_eq_some_iff.1 hl3).1, (World.putObj_heap_other (by omega)).trans hd3⟩
      | ret => exact hp.elim
      | exit id => exact hp.elim
      | goto t => exact hp.elim
      | panic ch => exact hp.elim
      | outgrown => exact hp.elim
    · -- behind the iterator
      rintro e W2 ⟨⟨v, rfl⟩, k, v2, hi, hl, hk⟩
      exact ⟨none, _, by have := run_endLoop (P := Try.prog) hl (by rw [hrec]; simp); rw [hrec] at this; exact this, hdone _ _ _ _ (Nat.le_refl _) ((hI _ _ _).putObj _ hi (by omega) hl rfl) ((World.putObj_heap_other (by omega)).trans hk)⟩
end Go.Proofs.Ytedhippamfioeaa.Rpf
