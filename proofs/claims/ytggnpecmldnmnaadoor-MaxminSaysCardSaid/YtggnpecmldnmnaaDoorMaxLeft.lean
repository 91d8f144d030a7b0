/- What is left on each link while rates are taken away, flow by flow and link by link: for the laws and the document's answer. No statement is proved here. -/
import Derived.Test.YtggnpecmldnmnaaDoorMaxMath
import Derived.Test.YtggnpecmldnmnaaDoorOwnI
import Derived.Test.YtggnpecmldnmnaaDoorRowsAt
namespace Go.Proofs.YtggnpecmldnmnaaDoor.Maxmin
open Go.ChangeShapes Go.WideShapes Go.ChangeAt Go.RowKit Go.Proofs.YtggnpecmldnmnaaDoor.Kit Go.Proofs.YtggnpecmldnmnaaDoor.App Go.Proofs.YtggnpecmldnmnaaDoor.Err Go.Proofs.YtggnpecmldnmnaaDoor.Drr
set_option linter.unusedVariables false
set_option maxRecDepth 20000

theorem wf_some {x : Int} (h : -100000 ≤ x ∧ x ≤ 100000) : (Lit.int .i64 x).wf = true := by
  simp [Lit.wf, IntKind.min, IntKind.max, IntKind.signed, IntKind.bits]; omega
/-- What was taken at a place behind i flows and k links of the next, of n. -/
def tak (ws : List (List Int)) (n : Nat) (a : Nat → Int) (i k : Nat) (y : Int) : Int := tk (part ws a (List.range n) i k) y
theorem range_at {n i : Nat} (hi : i < n) : (List.range n)[i]?.getD 0 = i := by rw [List.getElem?_range hi]; rfl
variable {ws : List (List Int)} {room : List Int} {n M : Nat} {a : Nat → Int}
theorem tak_zero (y : Int) : tak ws n a 0 0 y = 0 := by unfold tak; rw [part_zero]; rfl
theorem tak_step {i k : Nat} (hi : i < n) (hk : k < (row ws i).length) (y : Int) : tak ws n a i (k + 1) y = tak ws n a i k y + if (row ws i)[k]?.getD 0 = y then a i else 0 := by
  unfold tak
  rw [part_step (range_at hi) hk, tk_snoc]
theorem tak_next {i : Nat} (hi : i < n) (y : Int) : tak ws n a i (row ws i).length y = tak ws n a (i + 1) 0 y := by
  unfold tak
  rw [part_next (by rw [List.length_range]; exact hi) (range_at hi)]
theorem tak_all (hd : ∀ w ∈ ws, w.Nodup) (hn : n = ws.length) (y : Int) : tak ws n a n 0 y = ld ws a y := by
  subst hn
  unfold tak
  have := part_all (ws := ws) (amt := a) (A := List.range ws.length)
  rw [List.length_range] at this
  rw [this, tk_all hd]
theorem tak_in (hd : ∀ w ∈ ws, w.Nodup) {B : Int} (hB : ∀ i, 0 ≤ a i ∧ a i ≤ B) (hn : n ≤ 5) (i k : Nat) (y : Int) : 0 ≤ tak ws n a i k y ∧ tak ws n a i k y ≤ B * 6 :=
  tk_part5 hd hB (by rw [List.length_range]; exact hn) i k y
theorem lt_zero (n : Nat) : List.replicate n (0 : Int) = lt n fun _ => 0 := by
  unfold lt; rw [List.map_const', List.length_range]
/-- What is left on M places, in a block of its own. -/
structure Lft (room : List Int) (ws : List (List Int)) (n M : Nat) (a : Nat → Int) (w2 W : World) (g c : Nat) (i k : Nat) : Prop where
  bel : Below w2.heap.size w2 W
  own : OwnI W w2.heap.size (.slice (some ⟨g, 0, none⟩) M c) (lt M fun y => cp room y - tak ws n a i k y)
variable {w2 W W' : World} {g c i k : Nat}
theorem Lft.drewN (H : Lft room ws n M a w2 W g c i k) (m : Nat) : Lft room ws n M a w2 (W.drewN m) g c i k := ⟨bdrewN H.bel m, H.own⟩
theorem Lft.drew (H : Lft room ws n M a w2 W g c i k) : Lft room ws n M a w2 W.drew g c i k := H.drewN 1
theorem Lft.call (H : Lft room ws n M a w2 W g c i k) (hb : Below W.heap.size W W') : Lft room ws n M a w2 W' g c i k := ⟨bcall H.bel hb, H.own.below hb⟩
theorem Lft.cell (H : Lft room ws n M a w2 W g c i k) {x : Nat} (hx : x < M) : W.cell? ⟨g, x, none⟩ = some (.int .i64 (cp room (x : Int) - tak ws n a i k (x : Int))) := by
  have := own_cell H.own x (by rw [lt_len]; exact hx)
  rwa [lt_get _ _ _ hx] at this
theorem Lft.fz (H : Lft room ws n M a w2 W g c i k) (x : Nat) : W.frozen? ⟨g, x, none⟩ = false := own_fz H.own x
theorem Lft.step (H : Lft room ws n M a w2 W g c i k) {x : Nat} (hi : i < n) (hk : k < (row ws i).length) (hx : (row ws i)[k]?.getD 0 = (x : Int)) (t : Int) (ht : cp room (x : Int) - tak ws n a i k (x : Int) - a i = t) (hw : -100000 ≤ t ∧ t ≤ 100000) :
    Lft room ws n M a w2 (W.setCell ⟨g, x, none⟩ (.int .i64 t)) g c i (k + 1) := by
  refine ⟨gbelow H.bel (Nat.le_refl _) (set_grown W g x _) (H.own.lt g rfl).1, ?_⟩
  have := own_set H.own x t (wf_some hw)
  rw [lt_set] at this
  rw [lt_congr (g := fun y => if y = (x : Int) then t else cp room y - tak ws n a i k y) fun y _ => by
    rw [tak_step hi hk, hx]
    by_cases e : (y : Int) = (x : Int)
    · rw [if_pos e, if_pos e.symm, ← ht, e]; omega
    · rw [if_neg e, if_neg (fun e2 => e e2.symm)]; omega]
  exact this
theorem Lft.next (H : Lft room ws n M a w2 W g c i (row ws i).length) (hi : i < n) : Lft room ws n M a w2 W g c (i + 1) 0 := by
  refine ⟨H.bel, ?_⟩
  have := H.own
  rwa [lt_congr (g := fun y => cp room y - tak ws n a (i + 1) 0 y) fun y _ => by rw [tak_next hi]] at this
theorem cp_in (hg : Good room ws) {x : Nat} (hx : x < room.length) : 0 ≤ cp room (x : Int) ∧ cp room (x : Int) ≤ 1000 := by
  unfold cp
  rw [Int.toNat_natCast, List.getElem?_eq_getElem hx]
  exact hg.caps _ (List.getElem_mem hx)
theorem cp_behind (room : List Int) : room ++ [0] = lt (room.length + 1) (cp room) := by
  refine List.ext_getElem (by rw [lt_len]; simp) fun j h1 h2 => ?_
  rw [lt_len] at h2
  have h3 := lt_get (room.length + 1) (cp room) j h2
  rw [List.getElem?_eq_getElem (by rw [lt_len]; exact h2)] at h3
  have h4 : (lt (room.length + 1) (cp room))[j] = cp room (j : Int) := h3
  rw [h4]
  unfold cp
  rw [Int.toNat_natCast]
  by_cases e : j < room.length
  · rw [List.getElem_append_left e, List.getElem?_eq_getElem e]; rfl
  · have : j = room.length := by omega
    subst this
    simp
/-- The rates of the first n, and nothing behind. -/
def am (n : Nat) (r : Nat → Int) (i : Nat) : Int := if i < n then r i else 0
theorem am_in {r : Nat → Int} {B : Int} (h0 : 0 ≤ B) (h : ∀ i, i < n → 0 ≤ r i ∧ r i ≤ B) (i : Nat) : 0 ≤ am n r i ∧ am n r i ≤ B := by
  unfold am
  by_cases e : i < n
  · rw [if_pos e]; exact h i e
  · rw [if_neg e]; omega
theorem am_at {r : Nat → Int} (hi : i < n) : am n r i = r i := if_pos hi
theorem lf_am (hd : ∀ w ∈ ws, w.Nodup) (hn : n = ws.length) (r : Nat → Int) (y : Int) : cp room y - tak ws n (am n r) n 0 y = lf room ws r y := by
  unfold lf
  rw [tak_all hd hn, ld_congr (g := r) fun i hi _ => am_at (by omega)]
theorem Lft.left {r : Nat → Int} (H : Lft room ws n M (am n r) w2 W g c n 0) (hd : ∀ w ∈ ws, w.Nodup) (hn : n = ws.length) {x : Nat} (hx : x < M) : W.cell? ⟨g, x, none⟩ = some (.int .i64 (lf room ws r (x : Int))) := by
  rw [← lf_am hd hn r (x : Int)]
  exact H.cell hx
theorem Lft.more {b : Nat} (H : Lft room ws n M a w2 W g c i k) (hg : W.grownBy W' (some b)) (hb : w2.heap.size ≤ b) (hne : g ≠ b) : Lft room ws n M a w2 W' g c i k :=
  ⟨gbelow H.bel (Nat.le_refl _) hg hb, H.own.more hg (.inr fun e => hne (Option.some.inj e))⟩
/-- What is left, and how many there are, on each of M places. -/
structure Lk (room : List Int) (ws : List (List Int)) (n M : Nat) (a : Nat → Int) (w2 W : World) (g c g2 : Nat) (i k k2 : Nat) : Prop where
  lft : Lft room ws n M a w2 W g c i k
  own : OwnI W w2.heap.size (.slice (some ⟨g2, 0, none⟩) M M) (lt M fun y => tak ws n (fun _ => 1) i k2 y)
  ne : g ≠ g2
variable {g2 k2 : Nat}
theorem Lk.drewN (H : Lk room ws n M a w2 W g c g2 i k k2) (m : Nat) : Lk room ws n M a w2 (W.drewN m) g c g2 i k k2 := ⟨H.lft.drewN m, H.own, H.ne⟩
theorem Lk.drew (H : Lk room ws n M a w2 W g c g2 i k k2) : Lk room ws n M a w2 W.drew g c g2 i k k2 := H.drewN 1
theorem Lk.step1 (H : Lk room ws n M a w2 W g c g2 i k k2) {x : Nat} (hi : i < n) (hk : k < (row ws i).length) (hx : (row ws i)[k]?.getD 0 = (x : Int)) (t : Int) (ht : cp room (x : Int) - tak ws n a i k (x : Int) - a i = t) (hw : -100000 ≤ t ∧ t ≤ 100000) :
    Lk room ws n M a w2 (W.setCell ⟨g, x, none⟩ (.int .i64 t)) g c g2 i (k + 1) k2 :=
  ⟨H.lft.step hi hk hx t ht hw, H.own.more (set_grown W g x _) (.inr fun e => H.ne (Option.some.inj e).symm), H.ne⟩
theorem Lk.cell2 (H : Lk room ws n M a w2 W g c g2 i k k2) {x : Nat} (hx : x < M) : W.cell? ⟨g2, x, none⟩ = some (.int .i64 (tak ws n (fun _ => 1) i k2 (x : Int))) := by
  have := own_cell H.own x (by rw [lt_len]; exact hx)
  rwa [lt_get _ _ _ hx] at this
theorem Lk.fz2 (H : Lk room ws n M a w2 W g c g2 i k k2) (x : Nat) : W.frozen? ⟨g2, x, none⟩ = false := own_fz H.own x
theorem Lk.step2 (H : Lk room ws n M a w2 W g c g2 i k k2) {x : Nat} (hi : i < n) (hk : k2 < (row ws i).length) (hx : (row ws i)[k2]?.getD 0 = (x : Int)) (t : Int) (ht : tak ws n (fun _ => 1) i k2 (x : Int) + 1 = t) (hw : -100000 ≤ t ∧ t ≤ 100000) :
    Lk room ws n M a w2 (W.setCell ⟨g2, x, none⟩ (.int .i64 t)) g c g2 i k (k2 + 1) := by
  refine ⟨H.lft.more (set_grown W g2 x _) (H.own.lt g2 rfl).1 H.ne, ?_, H.ne⟩
  have := own_set H.own x t (wf_some hw)
  rw [lt_set] at this
  rw [lt_congr (g := fun y => if y = (x : Int) then t else tak ws n (fun _ => 1) i k2 y) fun y _ => by
    rw [tak_step hi hk, hx]
    by_cases e : (y : Int) = (x : Int)
    · rw [if_pos e, if_pos e.symm, ← ht, e]
    · rw [if_neg e, if_neg (fun e2 => e e2.symm)]; omega]
  exact this
theorem Lk.next (H : Lk room ws n M a w2 W g c g2 i (row ws i).length (row ws i).length) (hi : i < n) : Lk room ws n M a w2 W g c g2 (i + 1) 0 0 := by
  refine ⟨H.lft.next hi, ?_, H.ne⟩
  have := H.own
  rwa [lt_congr (g := fun y => tak ws n (fun _ => 1) (i + 1) 0 y) fun y _ => by rw [tak_next hi]] at this
theorem Lk.many (H : Lk room ws n M a w2 W g c g2 n k 0) (hd : ∀ w ∈ ws, w.Nodup) (hn : n = ws.length) {x : Nat} (hx : x < M) : W.cell? ⟨g2, x, none⟩ = some (.int .i64 (us ws all (x : Int))) := by
  have := H.cell2 hx
  rw [tak_all hd hn] at this
  exact this
end Go.Proofs.YtggnpecmldnmnaaDoor.Maxmin
