/- Helpers for ranges over functions whose bodies call an outer yield and append onto a slice of their own. No statement is proved here. -/
import Derived.Test.YtooicigocljomaaDoorIter
namespace Go.Proofs.YtooicigocljomaaDoor.It
open Go.RowKit Go.Shelf
set_option linter.unusedVariables false

/-- Blocks that Pr names, those from a to b, and from lo on all that are no cells, lie as they lay. -/
structure KeptD (Pr : Nat → Prop) (lo a b : Nat) (X Y : World) : Prop where
  size : X.heap.size ≤ Y.heap.size
  same : ∀ k, k < X.heap.size → Pr k ∨ (a ≤ k ∧ k < b) ∨ (lo ≤ k ∧ ∃ o : Obj, X.heap[k]? = some o ∧ o.isCells = false) → Y.heap[k]? = X.heap[k]?

theorem KeptD.refl (Pr : Nat → Prop) (lo a b : Nat) (X : World) : KeptD Pr lo a b X X := ⟨Nat.le_refl _, fun _ _ _ => rfl⟩
theorem KeptD.trans {Pr : Nat → Prop} {lo a b : Nat} {X Y Z : World} (h : KeptD Pr lo a b X Y) (k : KeptD Pr lo a b Y Z) : KeptD Pr lo a b X Z :=
  ⟨Nat.le_trans h.size k.size, fun i hi hp => by
    have e := h.same i hi hp
    refine (k.same i (Nat.lt_of_lt_of_le hi h.size) ?_).trans e
    rcases hp with hp | hp | ⟨h1, o, h2, h3⟩
    · exact .inl hp
    · exact .inr (.inl hp)
    · exact .inr (.inr ⟨h1, o, e.trans h2, h3⟩)⟩
theorem KeptD.mono {Pr Pr' : Nat → Prop} {lo a b lo' a' b' : Nat} {X Y : World} (h : KeptD Pr lo a b X Y) (hp : ∀ k, k < X.heap.size → Pr' k → Pr k ∨ (a ≤ k ∧ k < b)) (hab : ∀ k, k < X.heap.size → a' ≤ k → k < b' → Pr k ∨ (a ≤ k ∧ k < b)) (hlo : lo ≤ lo') : KeptD Pr' lo' a' b' X Y :=
  ⟨h.size, fun k hk hq => h.same k hk (by
    rcases hq with q | ⟨q1, q2⟩ | ⟨q1, q2⟩
    · rcases hp k hk q with h1 | h1
      · exact .inl h1
      · exact .inr (.inl h1)
    · rcases hab k hk q1 q2 with h1 | h1
      · exact .inl h1
      · exact .inr (.inl h1)
    · exact .inr (.inr ⟨Nat.le_trans hlo q1, q2⟩))⟩
theorem KeptD.grown {Pr : Nat → Prop} {lo a b : Nat} {X Y : World} {row : Option Nat} (hg : X.grownBy Y row) (hr : ∀ r, row = some r → ¬ Pr r ∧ ¬ (a ≤ r ∧ r < b) ∧ (r < lo ∨ ∀ o : Obj, X.heap[r]? = some o → o.isCells = true)) : KeptD Pr lo a b X Y :=
  ⟨hg.size, fun k hk hp => hg.block k hk (fun e => by
    obtain ⟨h1, h2, h3⟩ := hr k e.symm
    rcases hp with q | q | ⟨q1, o, q2, q3⟩
    · exact h1 q
    · exact h2 q
    · rcases h3 with h3 | h3
      · omega
      · rw [h3 o q2] at q3; cases q3)⟩
theorem KeptD.alloc {Pr : Nat → Prop} {lo a b : Nat} {X : World} (o : Obj) : KeptD Pr lo a b X (X.alloc o) := KeptD.grown (World.grownBy_alloc X o none) (fun r e => by cases e)
theorem KeptD.drew {Pr : Nat → Prop} {lo a b : Nat} {X : World} : KeptD Pr lo a b X X.drew := KeptD.grown (grown_drew X) (fun r e => by cases e)
/-- The cells that Pr names. -/
theorem KeptD.cell {Pr : Nat → Prop} {lo a b : Nat} {X Y : World} (h : KeptD Pr lo a b X Y) {p : Addr} {v : Value} (hp : Pr p.block ∨ (a ≤ p.block ∧ p.block < b)) (hc : X.cell? p = some v) : Y.cell? p = some v := by
  have hlt := cell_lt hc
  rw [← hc]
  exact World.cell?_of_block (w := X) (h.same _ hlt (hp.elim .inl (fun q => .inr (.inl q))))
/-- What a named set of blocks holds. -/
theorem KeptD.kept {Pr Pr' : Nat → Prop} {lo a b B : Nat} {X Y : World} (h : KeptD Pr lo a b X Y) (hp : ∀ k, k < X.heap.size → Pr' k → Pr k ∨ (a ≤ k ∧ k < b)) (hB : X.heap.size ≤ B) : Kept Pr' B X Y :=
  ⟨h.size, fun k hk hq => h.same k hk (by
    rcases hq with q | q
    · rcases hp k hk q with h1 | h1
      · exact .inl h1
      · exact .inr (.inl h1)
    · omega)⟩

/-- An iterator hands tot to its yield, entry by entry, until a round says no more. Pr: the blocks that it reads between two rounds; d: how many blocks it makes ahead of the first round. -/
def IterD (P : Program) (g : Nat) (lb : Array Value) (tot : List (Array Value)) (Pr : Nat → Prop) (d : Nat) (w0 : World) : Prop :=
  ∀ (l : Nat) (J Jx : Nat → World → Prop) (W : World), l < W.heap.size → Kept Pr w0.heap.size w0 W → OwnFrom W.heap.size J → OwnFrom W.heap.size Jx →
    (∀ k (hk : k < tot.length) W1, J k W1 → W.heap.size + d ≤ W1.heap.size → YieldAt Fence.wide 0 P l tot[k] W1 fun e W' =>
      ((e = .returned (.bool true) ∧ J (k + 1) W') ∨ (e = .returned (.bool false) ∧ Jx (k + 1) W')) ∧ KeptD Pr W.heap.size W.heap.size (W.heap.size + d) W1 W') →
    J 0 W →
    CallsIn Fence.wide 0 P g (#[.func (.yield l) #[] #[]] ++ lb) W fun e W' => (∃ v, e = .returned v) ∧ (J tot.length W' ∨ ∃ k, Jx k W')

/-- How the body of a round may be left. -/
def bpostD (Pr : Nat → Prop) (B d : Nat) (I : Nat → World → Prop) (Ix : Code → Nat → World → Prop) (k : Nat) (W : World) : Exit → Act → World → Prop
  | .normal, _, W' => KeptD Pr B (B + 2) (B + 2 + d) W W' ∧ I k W'
  | .ret, _, W' => KeptD Pr B (B + 2) (B + 2 + d) W W' ∧ Ix .ret k W'
  | .exit id, _, W' => KeptD Pr B (B + 2) (B + 2 + d) W W' ∧ Ix (.exit id) k W'
  | .goto t, _, W' => KeptD Pr B (B + 2) (B + 2 + d) W W' ∧ Ix (.goto t) k W'
  | .panic _, _, _ => False
  | .outgrown, _, _ => False

theorem wp_iterD {P : Program} {g : Operand} {ps : Array Tmp} {assign body : Code} {Q : Exit → Act → World → Prop} {a : Act} {w : World}
    {gf : Nat} {lb : Array Value} (hg : a.eval g = .func (.func gf) #[] lb) (eg : ∀ args w, (callFunc gf args).run P w = .ok (.enter gf args) w)
    {tot : List (Array Value)} {Pr : Nat → Prop} {d : Nat} {w0 : World} (hit : IterD P gf lb tot Pr d w0) (hK0 : Kept Pr w0.heap.size w0 w) (hPr : ∀ k, Pr k → k < w.heap.size)
    (hps : ∀ x ∈ tot, x.size = ps.size)
    (I : Nat → World → Prop) (Ix : Code → Nat → World → Prop) (hI : OwnFrom w.heap.size I) (hIx : ∀ c, OwnFrom w.heap.size (Ix c)) (h0 : I 0 w) (asg : Nat → World → World) (hasg : ∀ (k : Nat) (W : World), W.grownBy (asg k W) none) (Wb : Nat → Nat → World → Prop)
    (hWb : ∀ (k : Nat) (W : World), Wb k W.heap.size (asg k W)) (hWbO : ∀ (k g : Nat) (W W' : World) (row : Option Nat), Wb k g W → W.grownBy W' row → (∀ r, row = some r → ∃ o : Obj, W.heap[r]? = some o ∧ o.isCells = false) → Wb k g W') (a₁ : Nat → Nat → Act)
    (hassign : ∀ (l k : Nat) (hk : k < tot.length) (W : World) (K : Act → World → Prop), K (a₁ k W.heap.size) (asg k W) →
      assign.wpIn (Fence.wide.inRound l) 0 P (Exit.then K (fun _ _ _ => False)) { tmps := (ps.zip tot[k]).foldl (fun t (p, v) => t.setIfInBounds p v) a.tmps, defers := [] } W)
    (hbody : ∀ (l k : Nat) (hk : k < tot.length) (g : Nat) (W : World), w.heap.size ≤ l → l < W.heap.size → w.heap.size + 2 + d ≤ g → w.heap.size + 2 + d ≤ W.heap.size → Wb k g W → I k W → body.wpIn (Fence.wide.inRound l) 0 P (bpostD Pr w.heap.size d I Ix (k + 1) W) (a₁ k g) W)
    (hdone : ∀ (D : Nat) (W : World), w.heap.size ≤ D → I tot.length W → W.heap[D]? = some (.deferred (some [])) → Q .normal { a with defers := { target := .collected D, args := #[] } :: a.defers } W)
    (hstop : ∀ (D : Nat) (c : Code) (k : Nat) (W : World), w.heap.size ≤ D → Ix c k W → W.heap[D]? = some (.deferred (some [])) → c.wpIn Fence.wide 0 P Q { a with defers := { target := .collected D, args := #[] } :: a.defers } W) :
    (Code.rangeFunc g ps assign body).wpIn Fence.wide 0 P Q a w := by
  refine wpIn_rangeFunc ?_
  intro fn hfn
  show ∃ (l : Nat) (mark : List Deferred) (w₁ : World) (d : Deferred) (w₁' : World) (f : FuncId) (args : Array Value) (w₂ : World), (Instr.enterLoop fn a.tmps ps assign body none).run P w = _ ∧ _
  obtain ⟨rec, hrec⟩ : ∃ rec : LoopState → Option Code → Loop, rec = fun st pe => { state := st, pending := pe, fn, tmps := a.tmps, params := ps, assign, body, defers := w.heap.size } := ⟨_, rfl⟩
  obtain ⟨W1, hW1⟩ : ∃ W1, (w.alloc (.deferred (some []))).alloc (.loop (rec .ready none)) = W1 := ⟨_, rfl⟩
  have hL1 : W1.heap[w.heap.size + 1]? = some (.loop (rec .ready none)) := by
    rw [← hW1]; have := World.alloc_heap_new (w.alloc (.deferred (some []))) (.loop (rec .ready none)); rwa [World.size_alloc] at this
  have hK1 : W1.heap[w.heap.size]? = some (.deferred (some [])) := by
    rw [← hW1]; exact (Below.heap_alloc _ _ _ (by simp)).trans (World.alloc_heap_new w _)
  have hs1 : W1.heap.size = w.heap.size + 2 := by rw [← hW1]; simp
  have hI1 : I 0 W1 := by rw [← hW1]; exact hI.alloc _ (hI.alloc _ h0)
  have hk1 : Kept Pr w0.heap.size w0 W1 := by
    rw [← hW1]
    exact (hK0.trans (Kept.grown (World.grownBy_alloc w _ none) (fun r e => by cases e))).trans (Kept.grown (World.grownBy_alloc _ _ none) (fun r e => by cases e))
  refine ⟨w.heap.size + 1, [{ target := .collected w.heap.size, args := #[] }], W1, { target := .fn (.func gf) lb, args := #[.func (.yield (w.heap.size + 1)) #[] #[]] }, W1, gf,
    #[.func (.yield (w.heap.size + 1)) #[] #[]] ++ lb, W1, ?_, ?_, ?_, ?_, (fun h => by cases h), ?_⟩
  · rw [← hW1, hrec]; exact run_enterLoop_outer _ _ _ _ _
  · simp only [resolve, hg]
    simp [go_sem]
  · intro f' hf'; exact trivial
  · simp [invoke, go_sem, eg]
  · have hnw : ∀ {A B : World} {row : Option Nat}, (∀ r, row = some r → W1.heap.size ≤ r ∧ ∃ o : Obj, A.heap[r]? = some o ∧ o.isCells = false) → (∀ r, row = some r → w.heap.size ≤ r ∧ ∃ o : Obj, A.heap[r]? = some o ∧ o.isCells = false) :=
      fun hr r e => ⟨by have := (hr r e).1; omega, (hr r e).2⟩
    have hkeep : ∀ {A B : World} {row : Option Nat} {i : Nat} {o : Obj}, A.grownBy B row → (∀ r, row = some r → W1.heap.size ≤ r ∧ ∃ o : Obj, A.heap[r]? = some o ∧ o.isCells = false) → i < W1.heap.size → A.heap[i]? = some o → B.heap[i]? = some o :=
      fun hg' hr hi ho => (hg'.block _ (Array.getElem?_eq_some_iff.1 ho).1 (fun e => by have := (hr _ e.symm).1; omega)).trans ho
    refine (hit (w.heap.size + 1)
      (fun k W => I k W ∧ W.heap[w.heap.size + 1]? = some (.loop (rec .ready none)) ∧ W.heap[w.heap.size]? = some (.deferred (some [])))
      (fun k W => ∃ c, Ix c k W ∧ W.heap[w.heap.size + 1]? = some (.loop (rec .done (some c))) ∧ W.heap[w.heap.size]? = some (.deferred (some [])))
      W1 (by omega) hk1
      (fun s A B row hs hg' hr => ⟨hI s A B row hs.1 hg' (hnw (B := B) hr), hkeep hg' hr (by omega) hs.2.1, hkeep hg' hr (by omega) hs.2.2⟩)
      (fun s A B row hs hg' hr => by
        obtain ⟨c, hc, hl, hk⟩ := hs
        exact ⟨c, hIx c s A B row hc hg' (hnw (B := B) hr), hkeep hg' hr (by omega) hl, hkeep hg' hr (by omega) hk⟩)
      ?_ ⟨hI1, hL1, hK1⟩).mono ?_
    · -- one round
      rintro k hk W ⟨hi, hl, hkd⟩ hsz
      have hX := hasg k W
      have hlt0 : w.heap.size + 1 < W.heap.size := (Array.getElem?_eq_some_iff.1 hl).1
      have hy := run_yield (P := P) (args := tot[k]) hl (by rw [hrec]; exact hps _ (List.getElem_mem hk))
      rw [hrec] at hy
      have hlX : (asg k W).heap[w.heap.size + 1]? = some (.loop (rec .ready none)) := (hX.block _ hlt0 (fun e => by cases e)).trans hl
      have hkX : (asg k W).heap[w.heap.size]? = some (.deferred (some [])) := (hX.block _ (by omega) (fun e => by cases e)).trans hkd
      have hiX : I k (asg k W) := hI k W _ none hi hX (fun r e => by cases e)
      have hwX := hWb k W
      have hsX := hX.size
      have hkeptX : KeptD Pr W1.heap.size W1.heap.size (W1.heap.size + d) W (asg k W) := KeptD.grown hX (fun r e => by cases e)
      refine ⟨fn, _, assign, body, hy, roundIn_of_wpIn hfn (hassign _ k hk W _ ⟨_, run_beginRound hlX (by rw [hrec]), ?_⟩)⟩
      have hg0 : W.heap.size = W.heap.size := rfl
      generalize asg k W = X at hX hlX hkX hiX hwX hsX hkeptX
      have hlt : w.heap.size + 1 < X.heap.size := by omega
      have hl2 : (X.putObj (w.heap.size + 1) (.loop { rec .ready none with state := .busy })).heap[w.heap.size + 1]? = some (.loop { rec .ready none with state := .busy }) := World.putObj_heap_same hlt
      have hk2 : (X.putObj (w.heap.size + 1) (.loop { rec .ready none with state := .busy })).heap[w.heap.size]? = some (.deferred (some [])) := (World.putObj_heap_other (by omega)).trans hkX
      have hput : ∀ (Y : World) (o : Obj), KeptD Pr W1.heap.size W1.heap.size (W1.heap.size + d) Y (Y.putObj (w.heap.size + 1) o) := fun Y o =>
        KeptD.grown (grownBy_putObj' Y _ o) (fun r e => by cases e; exact ⟨fun hp => by have := hPr _ hp; omega, by omega, .inl (by omega)⟩)
      have hsz2 : (X.putObj (w.heap.size + 1) (.loop { rec .ready none with state := .busy })).heap.size = X.heap.size := by simp
      refine wpIn_mono (hbody _ k hk _ _ (by omega) (by simp; omega) (by omega) (by rw [hsz2]; omega) (hWbO k _ X _ _ hwX (grownBy_putObj' X _ _) (fun r e => by cases e; exact ⟨_, hlX, rfl⟩)) (hI.putObj _ hiX (by omega) hlX rfl)) ?_
      have fin : ∀ (jump : Option Code) (W3 : World), KeptD Pr w.heap.size (w.heap.size + 2) (w.heap.size + 2 + d) (X.putObj (w.heap.size + 1) (.loop { rec .ready none with state := .busy })) W3 →
          (Instr.endRound (w.heap.size + 1) jump).run P W3 = .ok (.bool jump.isNone) (W3.putObj (w.heap.size + 1) (.loop (rec (if jump.isNone then .ready else .done) jump))) ∧
          W3.heap[w.heap.size + 1]? = some (.loop { rec .ready none with state := .busy }) ∧
          (W3.putObj (w.heap.size + 1) (.loop (rec (if jump.isNone then .ready else .done) jump))).heap[w.heap.size + 1]? = some (.loop (rec (if jump.isNone then .ready else .done) jump)) ∧
          (W3.putObj (w.heap.size + 1) (.loop (rec (if jump.isNone then .ready else .done) jump))).heap[w.heap.size]? = some (.deferred (some [])) ∧
          KeptD Pr W1.heap.size W1.heap.size (W1.heap.size + d) W (W3.putObj (w.heap.size + 1) (.loop (rec (if jump.isNone then .ready else .done) jump))) := fun jump W3 hk3 => by
        have hl3 := (hk3.same _ (by omega) (.inr (.inr ⟨by omega, _, hl2, rfl⟩))).trans hl2
        have := run_endRound (P := P) jump hl3
        rw [hrec] at this ⊢
        refine ⟨this, by rw [hrec] at hl3; exact hl3, World.putObj_heap_same (Array.getElem?_eq_some_iff.1 hl3).1, (World.putObj_heap_other (by omega)).trans ((hk3.same _ (by omega) (.inr (.inr ⟨Nat.le_refl _, _, hk2, rfl⟩))).trans hk2), ?_⟩
        exact (((hkeptX.trans (hput X _)).trans ((by rw [hrec] at hk3; exact hk3.mono (fun _ _ h => .inl h) (fun _ _ h1 h2 => .inr ⟨by omega, by omega⟩) (by omega)))).trans (hput W3 _))
      rintro e a3 W3 hp
      cases e with
      | normal =>
        obtain ⟨hk3, hi3⟩ := hp
        obtain ⟨hr, hl3, hl4, hk4, hkp⟩ := fin none W3 hk3
        exact ⟨_, _, hr, .inl ⟨rfl, hI.putObj _ hi3 (by omega) hl3 rfl, hl4, hk4⟩, hkp⟩
      | ret =>
        obtain ⟨hk3, hi3⟩ := hp
        obtain ⟨hr, hl3, hl4, hk4, hkp⟩ := fin (some .ret) W3 hk3
        exact ⟨_, _, hr, .inr ⟨rfl, .ret, (hIx _).putObj _ hi3 (by omega) hl3 rfl, hl4, hk4⟩, hkp⟩
      | exit id =>
        obtain ⟨hk3, hi3⟩ := hp
        obtain ⟨hr, hl3, hl4, hk4, hkp⟩ := fin (some (.exit id)) W3 hk3
        exact ⟨_, _, hr, .inr ⟨rfl, .exit id, (hIx _).putObj _ hi3 (by omega) hl3 rfl, hl4, hk4⟩, hkp⟩
      | goto t =>
        obtain ⟨hk3, hi3⟩ := hp
        obtain ⟨hr, hl3, hl4, hk4, hkp⟩ := fin (some (.goto t)) W3 hk3
        exact ⟨_, _, hr, .inr ⟨rfl, .goto t, (hIx _).putObj _ hi3 (by omega) hl3 rfl, hl4, hk4⟩, hkp⟩
      | panic ch => exact hp.elim
      | outgrown => exact hp.elim
    · -- behind the iterator
      rintro e W2 ⟨⟨v, rfl⟩, (⟨hi, hl, hk⟩ | ⟨k, c, hi, hl, hk⟩)⟩
      · exact ⟨none, _, by have := run_endLoop (P := P) hl (by rw [hrec]; simp); rw [hrec] at this; exact this, hdone _ _ (Nat.le_refl _) (hI.putObj _ hi (by omega) hl rfl) ((World.putObj_heap_other (by omega)).trans hk)⟩
      · exact ⟨some c, _, by have := run_endLoop (P := P) hl (by rw [hrec]; simp); rw [hrec] at this; exact this, hstop _ c k _ (Nat.le_refl _) ((hIx c).putObj _ hi (by omega) hl rfl) ((World.putObj_heap_other (by omega)).trans hk)⟩
end Go.Proofs.YtooicigocljomaaDoor.It
