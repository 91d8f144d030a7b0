/- Helpers for ranges over functions whose bodies call an outer yield: a law of the walk and what is owed. No statement is proved here. -/
import Derived.Test.YtedhippamfioeaaDoorKit
import Derived.RangeFuncNested
import Derived.RangeFuncBound
import Derived.RangeFuncCalls
import Derived.RangeFuncLeaves
import Derived.Shelf.Abstract
import Derived.Shelf.RegionOpen
import Derived.OwnWalkIn
import Derived.TacticsInMore
import Derived.LoopNIn
import Derived.LoopIn
namespace Go.Proofs.YtedhippamfioeaaDoor.It
open Go.RowKit Go.Shelf
set_option linter.unusedVariables false
set_option maxRecDepth 20000

/-- Blocks that Pr names, and all blocks from B on, lie as they lay. -/
structure Kept (Pr : Nat → Prop) (B : Nat) (X Y : World) : Prop where
  size : X.heap.size ≤ Y.heap.size
  same : ∀ k, k < X.heap.size → Pr k ∨ B ≤ k → Y.heap[k]? = X.heap[k]?

theorem Kept.refl (Pr : Nat → Prop) (B : Nat) (X : World) : Kept Pr B X X := ⟨Nat.le_refl _, fun _ _ _ => rfl⟩
theorem Kept.trans {Pr : Nat → Prop} {B : Nat} {X Y Z : World} (h : Kept Pr B X Y) (k : Kept Pr B Y Z) : Kept Pr B X Z :=
  ⟨Nat.le_trans h.size k.size, fun i hi hp => (k.same i (Nat.lt_of_lt_of_le hi h.size) hp).trans (h.same i hi hp)⟩
theorem Kept.mono {Pr Pr' : Nat → Prop} {B B' : Nat} {X Y : World} (h : Kept Pr B X Y) (hp : ∀ k, k < X.heap.size → Pr' k → Pr k ∨ B ≤ k) (hB : B ≤ B') : Kept Pr' B' X Y :=
  ⟨h.size, fun k hk hq => h.same k hk (hq.elim (fun q => hp k hk q) (fun q => .inr (Nat.le_trans hB q)))⟩
theorem Kept.grown {Pr : Nat → Prop} {B : Nat} {X Y : World} {row : Option Nat} (hg : X.grownBy Y row) (hr : ∀ r, row = some r → ¬ Pr r ∧ r < B) : Kept Pr B X Y :=
  ⟨hg.size, fun k hk hp => hg.block k hk (fun e => hp.elim (fun q => (hr k e.symm).1 q) (fun q => Nat.not_lt_of_le q (hr k e.symm).2))⟩
theorem Kept.cell {Pr : Nat → Prop} {B : Nat} {X Y : World} (h : Kept Pr B X Y) {p : Addr} {v : Value} (hp : Pr p.block ∨ B ≤ p.block) (hc : X.cell? p = some v) : Y.cell? p = some v := by
  rcases Nat.lt_or_ge p.block X.heap.size with hlt | hge
  · rw [← hc]; exact World.cell?_of_block (w := X) (h.same _ hlt hp)
  · unfold World.cell? at hc; rw [Array.getElem?_eq_none hge] at hc; simp at hc

theorem cell_lt {X : World} {p : Addr} {v : Value} (hc : X.cell? p = some v) : p.block < X.heap.size := by
  rcases Nat.lt_or_ge p.block X.heap.size with hlt | hge
  · exact hlt
  · unfold World.cell? at hc; rw [Array.getElem?_eq_none hge] at hc; simp at hc
theorem ownFrom_kept {β : Type} {B : Nat} {Pr : Nat → Prop} {X : World} (hB : X.heap.size ≤ B) : OwnFrom B (fun (_ : β) W => Kept Pr X.heap.size X W) :=
  fun _ Y Z row hs hg hr => ⟨Nat.le_trans hs.size hg.size, fun k hk hp => by
    have h1 := hs.same k hk hp
    refine (hg.block k (Nat.lt_of_lt_of_le hk hs.size) (fun e => ?_)).trans h1
    have := (hr k e.symm).1
    omega⟩
theorem ownFrom_more {β : Type} {B B' : Nat} {I : β → World → Prop} (h : OwnFrom B I) (hB : B ≤ B') : OwnFrom B' I :=
  fun s X Y row hs hg hr => h s X Y row hs hg (fun r e => ⟨Nat.le_trans hB (hr r e).1, (hr r e).2⟩)
theorem grown_drew (w : World) : w.grownBy w.drew none := ⟨rfl, rfl, rfl, Nat.le_refl _, fun _ _ _ => rfl⟩
theorem ownFrom_drew {β : Type} {B : Nat} {I : β → World → Prop} (h : OwnFrom B I) {s : β} {W : World} (hs : I s W) : I s W.drew := h s W _ none hs (grown_drew W) (fun r e => by cases e)
theorem Kept.drew {Pr : Nat → Prop} {B : Nat} {X : World} : Kept Pr B X X.drew := Kept.grown (grown_drew X) (fun r e => by cases e)
theorem Kept.alloc {Pr : Nat → Prop} {B : Nat} {X : World} (o : Obj) : Kept Pr B X (X.alloc o) := Kept.grown (World.grownBy_alloc X o none) (fun r e => by cases e)

theorem yieldAt_n {n m : Nat} {P : Program} {l : Nat} {args : Array Value} {W : World} {R : Ending → World → Prop} (h : YieldAt Fence.wide n P l args W R) : YieldAt Fence.wide m P l args W R := by
  obtain ⟨fn, tmps, asg, body, h1, h2⟩ := h
  exact ⟨fn, tmps, asg, body, h1, h2.1, fun c cs _ => h2.2 c cs (room_wide _)⟩

theorem yld_norm {e : Ending} {A B K : Prop} (h : ((e = .returned (.bool true) ∧ A) ∨ (e = .returned (.bool false) ∧ B)) ∧ K) :
    ∃ b : Bool, e = .returned (.bool b) ∧ Hid ((b = true ∧ A) ∨ (b = false ∧ B)) ∧ K := by
  obtain ⟨⟨rfl, a⟩ | ⟨rfl, a⟩, k⟩ := h
  · exact ⟨true, rfl, .inl ⟨rfl, a⟩, k⟩
  · exact ⟨false, rfl, .inr ⟨rfl, a⟩, k⟩

/-- An iterator hands tot to its yield, entry by entry, until a round says no more. Pr: the blocks that it reads between two rounds. -/
def Iter (P : Program) (g : Nat) (lb : Array Value) (tot : List (Array Value)) (Pr : Nat → Prop) (w0 : World) : Prop :=
  ∀ (l : Nat) (J Jx : Nat → World → Prop) (W : World), l < W.heap.size → Kept Pr w0.heap.size w0 W → OwnFrom W.heap.size J → OwnFrom W.heap.size Jx →
    (∀ k (hk : k < tot.length) W1, J k W1 → W.heap.size ≤ W1.heap.size → YieldAt Fence.wide 0 P l tot[k] W1 fun e W' =>
      ((e = .returned (.bool true) ∧ J (k + 1) W') ∨ (e = .returned (.bool false) ∧ Jx (k + 1) W')) ∧ Kept Pr W.heap.size W1 W') →
    J 0 W →
    CallsIn Fence.wide 0 P g (#[.func (.yield l) #[] #[]] ++ lb) W fun e W' => (∃ v, e = .returned v) ∧ (J tot.length W' ∨ ∃ k, Jx k W')

/-- How the body of a round may be left. -/
def bpost (Pr : Nat → Prop) (B : Nat) (I : Nat → World → Prop) (Ix : Code → Nat → World → Prop) (k : Nat) (W : World) : Exit → Act → World → Prop
  | .normal, _, W' => Kept Pr B W W' ∧ I k W'
  | .ret, _, W' => Kept Pr B W W' ∧ Ix .ret k W'
  | .exit id, _, W' => Kept Pr B W W' ∧ Ix (.exit id) k W'
  | .goto t, _, W' => Kept Pr B W W' ∧ Ix (.goto t) k W'
  | .panic _, _, _ => False
  | .outgrown, _, _ => False

theorem wp_iter {P : Program} {g : Operand} {ps : Array Tmp} {assign body : Code} {Q : Exit → Act → World → Prop} {a : Act} {w : World}
    {gf : Nat} {lb : Array Value} (hg : a.eval g = .func (.func gf) #[] lb) (eg : ∀ args w, (callFunc gf args).run P w = .ok (.enter gf args) w)
    {tot : List (Array Value)} {Pr : Nat → Prop} {w0 : World} (hit : Iter P gf lb tot Pr w0) (hK0 : Kept Pr w0.heap.size w0 w) (hPr : ∀ k, Pr k → k < w.heap.size)
    (hps : ∀ x ∈ tot, x.size = ps.size)
    (I : Nat → World → Prop) (Ix : Code → Nat → World → Prop) (hI : OwnFrom w.heap.size I) (hIx : ∀ c, OwnFrom w.heap.size (Ix c)) (h0 : I 0 w) (a₁ : Nat → Act)
    (hassign : ∀ (l k : Nat) (hk : k < tot.length) (W : World) (K : Act → World → Prop), K (a₁ k) W →
      assign.wpIn (Fence.wide.inRound l) 0 P (Exit.then K (fun _ _ _ => False)) { tmps := (ps.zip tot[k]).foldl (fun t (p, v) => t.setIfInBounds p v) a.tmps, defers := [] } W)
    (hbody : ∀ (l k : Nat) (hk : k < tot.length) (W : World), w.heap.size ≤ l → l < W.heap.size → I k W → body.wpIn (Fence.wide.inRound l) 0 P (bpost Pr w.heap.size I Ix (k + 1) W) (a₁ k) W)
    (hdone : ∀ (D : Nat) (W : World), w.heap.size ≤ D → I tot.length W → W.heap[D]? = some (.deferred (some [])) → Q .normal { a with defers := { target := .collected D, args := #[] } :: a.defers } W)
    (hstop : ∀ (D : Nat) (c : Code) (k : Nat) (W : World), w.heap.size ≤ D → Ix c k W → W.heap[D]? = some (.deferred (some [])) → c.wpIn Fence.wide 0 P Q { a with defers := { target := .collected D, args := #[] } :: a.defers } W) :
    (Code.rangeFunc g ps assign body).wpIn Fence.wide 0 P Q a w := by
  refine wpIn_rangeFunc ?_
  intro fn hfn
  show ∃ (l : Nat) (mark : List Deferred) (w₁ : World) (d : Deferred) (w₁' : World) (f : FuncId) (args : Array Value) (w₂ : World), (Instr.enterLoop fn a.tmps ps assign body none).run P w = _ ∧ _
  obtain ⟨rec, hrec⟩ : ∃ rec : LoopState → Option Code → Loop, rec = fun st pe => { state := st, pending := pe, fn, tmps := a.tmps, params := ps, assign, body, defers := w.heap.size } := ⟨_, rfl⟩
  obtain ⟨W1, hW1⟩ : ∃ W1, (w.alloc (.deferred (some []))).alloc (.loop (rec .ready none)) = W1 := ⟨_, rfl⟩
  have hL1 : W1.heap[w.heap.size + 1]? = some (.loop (rec .ready none)) := by
    rw [← hW1]; have := World.alloc_heap_new (w.alloc (.deferred (some []))) (.loop (rec .ready none)); rwa [World.size_alloc] at this
  have hK1 : W1.heap[w.heap.size]? = some (.deferred (some [])) := by
    rw [← hW1]; exact (Below.heap_alloc _ _ _ (by simp)).trans (World.alloc_heap_new w _)
  have hs1 : W1.heap.size = w.heap.size + 2 := by rw [← hW1]; simp
  have hI1 : I 0 W1 := by rw [← hW1]; exact hI.alloc _ (hI.alloc _ h0)
  have hk1 : Kept Pr w0.heap.size w0 W1 := by
    rw [← hW1]
    exact (hK0.trans (Kept.grown (World.grownBy_alloc w _ none) (fun r e => by cases e))).trans (Kept.grown (World.grownBy_alloc _ _ none) (fun r e => by cases e))
  refine ⟨w.heap.size + 1, [{ target := .collected w.heap.size, args := #[] }], W1, { target := .fn (.func gf) lb, args := #[.func (.yield (w.heap.size + 1)) #[] #[]] }, W1, gf,
    #[.func (.yield (w.heap.size + 1)) #[] #[]] ++ lb, W1, ?_, ?_, ?_, ?_, (fun h => by cases h), ?_⟩
  · rw [← hW1, hrec]; exact run_enterLoop_outer _ _ _ _ _
  · simp only [resolve, hg]
    simp [go_sem]
  · intro f' hf'; exact trivial
  · simp [invoke, go_sem, eg]
  · have hnw : ∀ {A B : World} {row : Option Nat}, (∀ r, row = some r → W1.heap.size ≤ r ∧ ∃ o : Obj, A.heap[r]? = some o ∧ o.isCells = false) → (∀ r, row = some r → w.heap.size ≤ r ∧ ∃ o : Obj, A.heap[r]? = some o ∧ o.isCells = false) :=
      fun hr r e => ⟨by have := (hr r e).1; omega, (hr r e).2⟩
    have hkeep : ∀ {A B : World} {row : Option Nat} {i : Nat} {o : Obj}, A.grownBy B row → (∀ r, row = some r → W1.heap.size ≤ r ∧ ∃ o : Obj, A.heap[r]? = some o ∧ o.isCells = false) → i < W1.heap.size → A.heap[i]? = some o → B.heap[i]? = some o :=
      fun hg' hr hi ho => (hg'.block _ (Array.getElem?_eq_some_iff.1 ho).1 (fun e => by have := (hr _ e.symm).1; omega)).trans ho
    refine (hit (w.heap.size + 1)
      (fun k W => I k W ∧ W.heap[w.heap.size + 1]? = some (.loop (rec .ready none)) ∧ W.heap[w.heap.size]? = some (.deferred (some [])))
      (fun k W => ∃ c, Ix c k W ∧ W.heap[w.heap.size + 1]? = some (.loop (rec .done (some c))) ∧ W.heap[w.heap.size]? = some (.deferred (some [])))
      W1 (by omega) hk1
      (fun s A B row hs hg' hr => ⟨hI s A B row hs.1 hg' (hnw (B := B) hr), hkeep hg' hr (by omega) hs.2.1, hkeep hg' hr (by omega) hs.2.2⟩)
      (fun s A B row hs hg' hr => by
        obtain ⟨c, hc, hl, hk⟩ := hs
        exact ⟨c, hIx c s A B row hc hg' (hnw (B := B) hr), hkeep hg' hr (by omega) hl, hkeep hg' hr (by omega) hk⟩)
      ?_ ⟨hI1, hL1, hK1⟩).mono ?_
    · -- one round
      rintro k hk W ⟨hi, hl, hkd⟩ hsz
      have hlt : w.heap.size + 1 < W.heap.size := (Array.getElem?_eq_some_iff.1 hl).1
      have hy := run_yield (P := P) (args := tot[k]) hl (by rw [hrec]; exact hps _ (List.getElem_mem hk))
      rw [hrec] at hy
      refine ⟨fn, _, assign, body, hy, roundIn_of_wpIn hfn (hassign _ k hk W _ ⟨_, run_beginRound hl (by rw [hrec]), ?_⟩)⟩
      have hl2 : (W.putObj (w.heap.size + 1) (.loop { rec .ready none with state := .busy })).heap[w.heap.size + 1]? = some (.loop { rec .ready none with state := .busy }) := World.putObj_heap_same hlt
      have hk2 : (W.putObj (w.heap.size + 1) (.loop { rec .ready none with state := .busy })).heap[w.heap.size]? = some (.deferred (some [])) := (World.putObj_heap_other (by omega)).trans hkd
      have hput : ∀ (X : World) (o : Obj), Kept Pr W1.heap.size X (X.putObj (w.heap.size + 1) o) := fun X o =>
        Kept.grown (grownBy_putObj' X _ o) (fun r e => by cases e; exact ⟨fun hp => by have := hPr _ hp; omega, by omega⟩)
      have hsz2 : (W.putObj (w.heap.size + 1) (.loop { rec .ready none with state := .busy })).heap.size = W.heap.size := by simp
      refine wpIn_mono (hbody _ k hk _ (by omega) (by simp; omega) (hI.putObj _ hi (by omega) hl rfl)) ?_
      have fin : ∀ (jump : Option Code) (W3 : World), Kept Pr w.heap.size (W.putObj (w.heap.size + 1) (.loop { rec .ready none with state := .busy })) W3 →
          (Instr.endRound (w.heap.size + 1) jump).run P W3 = .ok (.bool jump.isNone) (W3.putObj (w.heap.size + 1) (.loop (rec (if jump.isNone then .ready else .done) jump))) ∧
          W3.heap[w.heap.size + 1]? = some (.loop { rec .ready none with state := .busy }) ∧
          (W3.putObj (w.heap.size + 1) (.loop (rec (if jump.isNone then .ready else .done) jump))).heap[w.heap.size + 1]? = some (.loop (rec (if jump.isNone then .ready else .done) jump)) ∧
          (W3.putObj (w.heap.size + 1) (.loop (rec (if jump.isNone then .ready else .done) jump))).heap[w.heap.size]? = some (.deferred (some [])) ∧
          Kept Pr W1.heap.size W (W3.putObj (w.heap.size + 1) (.loop (rec (if jump.isNone then .ready else .done) jump))) := fun jump W3 hk3 => by
        have hl3 := (hk3.same _ (by omega) (.inr (by omega))).trans hl2
        have := run_endRound (P := P) jump hl3
        rw [hrec] at this ⊢
        refine ⟨this, by rw [hrec] at hl3; exact hl3, World.putObj_heap_same (Array.getElem?_eq_some_iff.1 hl3).1, (World.putObj_heap_other (by omega)).trans ((hk3.same _ (by omega) (.inr (Nat.le_refl _))).trans hk2), ?_⟩
        exact ((hput W _).trans ((by rw [hrec] at hk3; exact hk3.mono (fun _ _ h => .inl h) (by omega)))).trans (hput W3 _)
      rintro e a3 W3 hp
      cases e with
      | normal =>
        obtain ⟨hk3, hi3⟩ := hp
        obtain ⟨hr, hl3, hl4, hk4, hkp⟩ := fin none W3 hk3
        exact ⟨_, _, hr, .inl ⟨rfl, hI.putObj _ hi3 (by omega) hl3 rfl, hl4, hk4⟩, hkp⟩
      | ret =>
        obtain ⟨hk3, hi3⟩ := hp
        obtain ⟨hr, hl3, hl4, hk4, hkp⟩ := fin (some .ret) W3 hk3
        exact ⟨_, _, hr, .inr ⟨rfl, .ret, (hIx _).putObj _ hi3 (by omega) hl3 rfl, hl4, hk4⟩, hkp⟩
      | exit id =>
        obtain ⟨hk3, hi3⟩ := hp
        obtain ⟨hr, hl3, hl4, hk4, hkp⟩ := fin (some (.exit id)) W3 hk3
        exact ⟨_, _, hr, .inr ⟨rfl, .exit id, (hIx _).putObj _ hi3 (by omega) hl3 rfl, hl4, hk4⟩, hkp⟩
      | goto t =>
        obtain ⟨hk3, hi3⟩ := hp
        obtain ⟨hr, hl3, hl4, hk4, hkp⟩ := fin (some (.goto t)) W3 hk3
        exact ⟨_, _, hr, .inr ⟨rfl, .goto t, (hIx _).putObj _ hi3 (by omega) hl3 rfl, hl4, hk4⟩, hkp⟩
      | panic ch => exact hp.elim
      | outgrown => exact hp.elim
    · -- behind the iterator
      rintro e W2 ⟨⟨v, rfl⟩, (⟨hi, hl, hk⟩ | ⟨k, c, hi, hl, hk⟩)⟩
      · exact ⟨none, _, by have := run_endLoop (P := P) hl (by rw [hrec]; simp); rw [hrec] at this; exact this, hdone _ _ (Nat.le_refl _) (hI.putObj _ hi (by omega) hl rfl) ((World.putObj_heap_other (by omega)).trans hk)⟩
      · exact ⟨some c, _, by have := run_endLoop (P := P) hl (by rw [hrec]; simp); rw [hrec] at this; exact this, hstop _ c k _ (Nat.le_refl _) ((hIx c).putObj _ hi (by omega) hl rfl) ((World.putObj_heap_other (by omega)).trans hk)⟩
end Go.Proofs.YtedhippamfioeaaDoor.It
