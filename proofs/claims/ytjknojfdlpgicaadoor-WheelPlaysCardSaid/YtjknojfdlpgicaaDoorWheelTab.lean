/- Package wheel: the program's wheel beside the document's table of ticks left; Start and Stop in whatever case. No statement is proved here. -/
import Derived.Test.YtjknojfdlpgicaaDoorWheelLaw
import Derived.Test.YtjknojfdlpgicaaDoorWheelStop
namespace Go.Proofs.YtjknojfdlpgicaaDoor.Wheel
open Go.ChangeShapes Go.WideShapes Go.ChangeAt Go.RowKit Go.Proofs.YtjknojfdlpgicaaDoor.Kit Go.Proofs.YtjknojfdlpgicaaDoor.App Go.Proofs.YtjknojfdlpgicaaDoor.Queue Go.Proofs.YtjknojfdlpgicaaDoor.MapZ Go.Proofs.YtjknojfdlpgicaaDoor.WheelMath
set_option linter.unusedVariables false
set_option maxRecDepth 20000
set_option maxHeartbeats 1000000

def stopC (left : Int → Nat) (i : Int) : Int := if left i = 0 then 5 else 0
def startC (left : Int → Nat) (i a : Int) : Int := if 0 ≤ i ∧ i < 20 ∧ 1 ≤ a ∧ a ≤ 400 then if left i = 0 then 0 else 6 else 1
def startL (left : Int → Nat) (i a : Int) : Int → Nat := if startC left i a = 0 then updZ left i a.toNat else left
theorem keep_of {X : Nat → Prop} {w w' : World} (h : Below w.heap.size w w') (hx : ∀ k, X k → k < w.heap.size) : Keep X w w' := ⟨h.os, h.tape, h.output, h.size, fun k hk => h.block k (hx k hk)⟩
theorem stop_any (X : Nat → Prop) (b n : Nat) (left : Int → Nat) (i : Int) (w : World) (H : Wh X w b n left) (hi : (Lit.int .i64 i).wf = true) :
    Calls Tryd.prog 10 #[.pointer (some ⟨b, 0, none⟩), .int .i64 i] w fun e w' => e = .returned (er (stopC left i)) ∧ Wh X w' b n (updZ left i 0) ∧ Keep X w w' := by
  unfold stopC
  by_cases hl : left i = 0
  · rw [if_pos hl, upd_zero hl]
    refine (stop_none X b n left i w H hi hl).mono ?_
    rintro e w' ⟨rfl, hb⟩
    exact ⟨rfl, H.below hb, keep_of hb H.xl⟩
  · rw [if_neg hl]
    exact stop_good X b n left i w H hl
theorem start_any (X : Nat → Prop) (b n : Nat) (left : Int → Nat) (i a : Int) (w : World) (H : Wh X w b n left) (hn : n ≤ 1000000) :
    Calls Tryd.prog 7 #[.pointer (some ⟨b, 0, none⟩), .int .i64 i, .int .i64 a] w fun e w' => e = .returned (er (startC left i a)) ∧ Wh X w' b (n + 1) (startL left i a) ∧ Keep X w w' := by
  unfold startL startC
  by_cases h : 0 ≤ i ∧ i < 20 ∧ 1 ≤ a ∧ a ≤ 400
  · obtain ⟨k, rfl⟩ : ∃ k : Nat, (k : Int) = a := ⟨a.toNat, by omega⟩
    rw [if_pos h]
    by_cases hl : left i = 0
    · rw [if_pos hl, if_pos rfl, Int.toNat_natCast]
      exact start_good X b n left i k w H hn ⟨h.1, h.2.1⟩ (by omega) (by omega) hl
    · rw [if_neg hl, if_neg (by omega)]
      refine (start_clash X b n left i k w H ⟨h.1, h.2.1⟩ (by omega) (by omega) hl).mono ?_
      rintro e w' ⟨rfl, rfl⟩
      exact ⟨rfl, H.mono (Nat.le_succ _), Keep.refl _ _⟩
  · rw [if_neg h, if_neg (by omega)]
    refine (start_bad b i a w h).mono ?_
    rintro e w' ⟨rfl, rfl⟩
    exact ⟨rfl, H.mono (Nat.le_succ _), Keep.refl _ _⟩

def tab (f : Int → Nat) : List Int := (List.range 20).map (fun j : Nat => ((f (j : Int) : Nat) : Int))
theorem tab_len (f : Int → Nat) : (tab f).length = 20 := by simp [tab]
theorem tab_get (f : Int → Nat) {j : Nat} (h : j < 20) : (tab f)[j]?.getD 0 = (f (j : Int) : Nat) := by unfold tab; simp [h]
theorem tab_set (f : Int → Nat) {j : Nat} (h : j < 20) (v : Nat) : (tab f).set j (v : Int) = tab (updZ f (j : Int) v) := by
  refine List.ext_getElem? fun k => ?_
  unfold tab
  rw [List.getElem?_set]
  by_cases e : j = k
  · subst e
    simp [h, updZ_same]
  · rw [if_neg e]
    by_cases hk : k < 20
    · simp [hk, updZ_other f v (show (k : Int) ≠ (j : Int) by omega)]
    · simp [hk]
theorem tab_congr {f g : Int → Nat} (h : ∀ j : Nat, j < 20 → f (j : Int) = g (j : Int)) : tab f = tab g := by
  refine List.ext_getElem? fun k => ?_
  unfold tab
  by_cases hk : k < 20
  · simp [hk, h k hk]
  · simp [hk]
/-- The table while its first k places have been counted down. -/
def mix (left : Int → Nat) (k : Nat) : Int → Nat := fun i => if i < (k : Int) then left i - 1 else left i
theorem mix_zero (left : Int → Nat) : tab (mix left 0) = tab left := tab_congr fun j _ => by unfold mix; rw [if_neg (by omega)]
theorem mix_at (left : Int → Nat) (k : Nat) : mix left k (k : Int) = left (k : Int) := by unfold mix; rw [if_neg (by omega)]
theorem mix_next (left : Int → Nat) (k : Nat) : updZ (mix left k) (k : Int) (left (k : Int) - 1) = mix left (k + 1) := by
  funext i
  by_cases e : i = (k : Int)
  · subst e; rw [updZ_same]; unfold mix; rw [if_pos (by omega)]
  · rw [updZ_other _ _ e]
    unfold mix
    by_cases h : i < (k : Int)
    · rw [if_pos h, if_pos (by omega)]
    · rw [if_neg h, if_neg (by omega)]
theorem mix_same (left : Int → Nat) (k : Nat) (h : left (k : Int) = 0) : mix left (k + 1) = mix left k := by
  rw [← mix_next, h]
  exact upd_zero (by rw [mix_at]; exact h)
theorem mix_all (left : Int → Nat) : tab (mix left 20) = tab (dec left) := tab_congr fun j h => by unfold mix dec; rw [if_pos (by omega)]

theorem RowQ.keep {X : Nat → Prop} {w w' : World} {g off cap : Nat} {l : List Int} (h : RowQ w g off cap l) (hk : Keep X w w') (hX : X g) : RowQ w' g off cap l := by
  obtain ⟨h1, cur, h2, h3⟩ := h
  exact ⟨h1, cur, (hk.block g hX).trans h2, h3⟩
theorem ints_keep {X : Nat → Prop} {w w' : World} {base n : Nat} {p : Option Addr} {cap : Nat} {l : List Int} (h : OwnQ w base (.slice p n cap) l) (hk : Keep X w w') (hX : ∀ k, (Value.slice p n cap).ownBlock = some k → X k) : Ints w' p cap l ∧ n = l.length := by
  have h0 := h
  obtain ⟨hw, ⟨e, rfl⟩ | ⟨g, off, cap', cur, e, hb, hh, hnc, hcm, hcs, ht⟩⟩ := h
  · exact ⟨(own_ints h0).1.keep hk.size (fun a e2 _ => by injection e with e1 _ _; rw [e1] at e2; cases e2), (own_ints h0).2⟩
  · refine ⟨(own_ints h0).1.keep hk.size (fun a e2 _ => hk.block _ (hX _ ?_)), (own_ints h0).2⟩
    rw [e]
    injection e with e1 _ _
    rw [e1] at e2
    injection e2 with e2
    rw [← e2]
    rfl
theorem w400 {x : Nat} (h : x ≤ 400) : (Lit.int .i64 (x : Int)).wf = true := wf_of (by omega)

/-- The wheel with the ticks left; the document's table in block lb says f. -/
structure PS (w0 w : World) (b lb n : Nat) (f left : Int → Nat) : Prop where
  wh : Wh (fun k => k < w0.heap.size ∨ k = lb) w b n left
  row : RowQ w lb 0 20 (tab f)
  lo : w0.heap.size ≤ lb
  bel : Below w0.heap.size w0 w
variable {w0 w w' : World} {b lb n : Nat} {f left : Int → Nat}
theorem PS.drewN (H : PS w0 w b lb n f left) (k : Nat) : PS w0 (w.drewN k) b lb n f left := ⟨H.wh.drewN k, H.row, H.lo, Go.Proofs.YtjknojfdlpgicaaDoor.Rtt.bdrewN H.bel k⟩
theorem PS.below (H : PS w0 w b lb n f left) (hb : Below w.heap.size w w') : PS w0 w' b lb n f left :=
  ⟨H.wh.below hb, H.row.more (grown_none (B := 0) hb) (by simp), H.lo, bcall H.bel hb⟩
theorem PS.mono (H : PS w0 w b lb n f left) {n' : Nat} (h : n ≤ n') : PS w0 w b lb n' f left := ⟨H.wh.mono h, H.row, H.lo, H.bel⟩
theorem PS.cell (H : PS w0 w b lb n f left) {j : Nat} (h : j < 20) : w.cell? ⟨lb, j, none⟩ = some (.int .i64 (f (j : Int) : Nat)) := by
  have := H.row.cell (j := j) (by rw [tab_len]; exact h)
  rwa [tab_get f h, Nat.zero_add] at this
theorem PS.fz (H : PS w0 w b lb n f left) (j : Nat) : w.frozen? ⟨lb, j, none⟩ = false := H.row.fz j
theorem PS.set (H : PS w0 w b lb n f left) {j : Nat} (h : j < 20) (v : Nat) (hv : v ≤ 400) : PS w0 (w.setCell ⟨lb, j, none⟩ (.int .i64 (v : Int))) b lb n (updZ f (j : Int) v) left := by
  have hg := set_grown w lb j (.int .i64 (v : Int))
  refine ⟨H.wh.more hg (fun k hk => by injection hk with hk; exact .inr hk.symm) (fun k hk => ⟨.inl hk, Nat.lt_of_lt_of_le (H.wh.xl k hk) hg.size⟩), ?_, H.lo, H.bel.grown hg H.bel.size (fun k hk => by injection hk with hk; have := H.lo; omega)⟩
  have := H.row.set j (v : Int) (w400 hv)
  rwa [tab_set f h v, Nat.zero_add] at this
theorem PS.wheel (H : PS w0 w b lb n f left) {n' : Nat} {left' : Int → Nat} (hw : Wh (fun k => k < w0.heap.size ∨ k = lb) w' b n' left') (hk : Keep (fun k => k < w0.heap.size ∨ k = lb) w w') : PS w0 w' b lb n' f left' :=
  ⟨hw, H.row.keep hk (.inr rfl), H.lo, H.bel.trans (hk.below (fun k h => .inl h))⟩
theorem PS.same (H : PS w0 w b lb n f left) {g : Int → Nat} (h : tab f = tab g) : PS w0 w b lb n g left := ⟨H.wh, by rw [← h]; exact H.row, H.lo, H.bel⟩

/-- .. and a slice of the law's own. -/
structure PW (w0 w : World) (b lb n : Nat) (v : Value) (ws : List Int) (f left : Int → Nat) : Prop where
  wh : Wh (fun k => (k < w0.heap.size ∨ k = lb) ∨ v.ownBlock = some k) w b n left
  row : RowQ w lb 0 20 (tab f)
  lo : w0.heap.size ≤ lb
  bel : Below w0.heap.size w0 w
  own : OwnQ w (lb + 1) v ws
  sz : lb < w.heap.size
variable {v : Value} {ws : List Int}
theorem PS.want (H : PS w0 w b lb n f left) : PW w0 w b lb n (.slice none 0 0) [] f left :=
  ⟨H.wh.less (fun k hk => by rcases hk with h | h; exact h; simp [Value.ownBlock] at h), H.row, H.lo, H.bel, OwnQ.nil _ _, H.row.lt⟩
theorem PW.cell (H : PW w0 w b lb n v ws f left) {j : Nat} (h : j < 20) : w.cell? ⟨lb, j, none⟩ = some (.int .i64 (f (j : Int) : Nat)) := by
  have := H.row.cell (j := j) (by rw [tab_len]; exact h)
  rwa [tab_get f h, Nat.zero_add] at this
theorem PW.fz (H : PW w0 w b lb n v ws f left) (j : Nat) : w.frozen? ⟨lb, j, none⟩ = false := H.row.fz j
theorem PW.ne (H : PW w0 w b lb n v ws f left) : some lb ≠ v.ownBlock := fun e => by have := (H.own.lt lb e.symm).1; omega
theorem PW.set (H : PW w0 w b lb n v ws f left) {j : Nat} (h : j < 20) (x : Nat) (hx : x ≤ 400) : PW w0 (w.setCell ⟨lb, j, none⟩ (.int .i64 (x : Int))) b lb n v ws (updZ f (j : Int) x) left := by
  have hg := set_grown w lb j (.int .i64 (x : Int))
  refine ⟨H.wh.more hg (fun k hk => by injection hk with hk; exact .inl (.inr hk.symm)) (fun k hk => ⟨.inl hk, Nat.lt_of_lt_of_le (H.wh.xl k hk) hg.size⟩), ?_, H.lo, H.bel.grown hg H.bel.size (fun k hk => by injection hk with hk; have := H.lo; omega), H.own.more hg (own_ne fun k hk e => H.ne (by rw [hk]; exact e)), Nat.lt_of_lt_of_le H.sz hg.size⟩
  have := H.row.set j (x : Int) (w400 hx)
  rwa [tab_set f h x, Nat.zero_add] at this
theorem PW.alloc (H : PW w0 w b lb n v ws f left) (o : Obj) : PW w0 (w.alloc o) b lb n v ws f left :=
  ⟨H.wh.below (balloc (brefl w) o), H.row.more (World.grownBy_alloc w o none) (by simp), H.lo, balloc H.bel o, H.own.alloc o, by have := H.sz; simp; omega⟩
theorem PW.app (H : PW w0 w b lb n v ws f left) {v' : Value} {ws' : List Int} (ho : OwnQ w' (lb + 1) v' ws') (hg : w.grownBy w' v.ownBlock) (hat : v'.ownBlock = v.ownBlock ∨ v'.ownBlock = some w.heap.size) : PW w0 w' b lb n v' ws' f left := by
  refine ⟨H.wh.more hg (fun k hk => .inr hk) (fun k hk => ?_), H.row.more hg H.ne, H.lo, H.bel.grown hg H.bel.size (fun k hk => by have := (H.own.lt k hk).1; have := H.lo; omega), ho, Nat.lt_of_lt_of_le H.sz hg.size⟩
  rcases hk with h | h
  · exact ⟨.inl (.inl h), Nat.lt_of_lt_of_le (H.wh.xl k (.inl h)) hg.size⟩
  · refine ⟨?_, (ho.lt k h).2⟩
    rcases hat with e | e
    · exact .inl (.inr (by rw [← e]; exact h))
    · rw [e] at h; injection h with h; exact .inr (by omega)
theorem PW.same (H : PW w0 w b lb n v ws f left) {g : Int → Nat} (h : tab f = tab g) : PW w0 w b lb n v ws g left := ⟨H.wh, by rw [← h]; exact H.row, H.lo, H.bel, H.own, H.sz⟩
theorem PW.wheel (H : PW w0 w b lb n v ws f left) {n' : Nat} {left' : Int → Nat} (hw : Wh (fun k => (k < w0.heap.size ∨ k = lb) ∨ v.ownBlock = some k) w' b n' left') (hk : Keep (fun k => (k < w0.heap.size ∨ k = lb) ∨ v.ownBlock = some k) w w') : PS w0 w' b lb n' f left' :=
  ⟨hw.less (fun k h => .inl h), H.row.keep hk (.inl (.inr rfl)), H.lo, H.bel.trans (hk.below (fun k h => .inl (.inl h)))⟩
end Go.Proofs.YtjknojfdlpgicaaDoor.Wheel
