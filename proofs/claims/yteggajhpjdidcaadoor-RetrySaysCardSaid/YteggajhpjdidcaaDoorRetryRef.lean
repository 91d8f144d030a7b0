/- Stations that meet and wait, the document's answer: Power, Room, Retry. No statement is proved here. -/
import Derived.Test.YteggajhpjdidcaaDoorRetryList
import Derived.Test.YteggajhpjdidcaaDoorTrio
import Derived.Test.YteggajhpjdidcaaDoorOwnI
import Derived.Test.YteggajhpjdidcaaDoorBlk
import Derived.BigQuiet
import Derived.OwnWalk
import Derived.Deep.RegionLaw
import Derived.StillTailTactics
namespace Go.Proofs.YteggajhpjdidcaaDoor.RetryDoc
open Go.ChangeShapes Go.WideShapes Go.ChangeAt Go.RowKit Go.Proofs.YteggajhpjdidcaaDoor.Kit Go.Proofs.YteggajhpjdidcaaDoor.App Go.Proofs.YteggajhpjdidcaaDoor.Err Go.Proofs.YteggajhpjdidcaaDoor.RetryMath
set_option linter.unusedVariables false
set_option maxRecDepth 20000
set_option maxHeartbeats 4000000

theorem power_any (n : Nat) (w : World) (hn : n ≤ 17) : Calls Tryd.prog 19 #[.int .i64 (n : Int)] w fun e w' => e = .returned (.int .i64 ((2 ^ n : Nat) : Int)) ∧ w' = w := by
  obtain ⟨R, hR0⟩ : ∃ R, 2 ^ n = R := ⟨_, rfl⟩
  rw [hR0]
  have hR := Lib.hid hR0.symm
  clear hR0
  go_enter Tryd.func19, Tryd.ntmps19
  go_wp2
  go_loop [3, 4] (fun p i => ∃ k x : Nat, k ≤ n ∧ x ≤ 131072 ∧ i = .int .i64 k ∧ p = .int .i64 x ∧ Hid (x = 2 ^ k)) (fun _ i => n - (intOf i).toNat)
  case atStart => exact ⟨0, 1, Nat.zero_le _, by omega, rfl, rfl, rfl⟩
  case round =>
    obtain ⟨k, x, hk, hx, rfl, rfl, H⟩ := hrel
    by_cases hlt : k < n
    · have hx2 : x ≤ 65536 := by
        rw [H.out]
        exact Nat.le_trans (Nat.pow_le_pow_right (by omega) (show k ≤ 16 by omega)) (by omega)
      go_wp2
      go_round
      case rel => exact ⟨k + 1, 2 * x, by omega, by omega, by first | rfl | go_num, by first | rfl | go_num, Lib.hid (by rw [H.out, Nat.pow_succ, Nat.mul_comm])⟩
      case measure => simp [intOf]; omega
    · obtain rfl : k = n := by omega
      obtain rfl : x = R := by rw [H.out, hR.out]
      go_wp2
      go_ret
      exact ⟨rfl, rfl⟩
theorem room_any (m : Nat) (w : World) (h : m ≤ 1000000) : Calls Tryd.prog 10 #[.int .i64 (m : Int)] w fun e w' => e = .returned (.int .i64 ((room m : Nat) : Int)) ∧ w' = w := by
  by_cases h1 : 10 < m
  · have t0 : decide ((m : Int) > 10) = true := decide_eq_true (by omega)
    have t0n : decide (10 < m) = true := decide_eq_true h1
    have P := Lib.hid (fun W => power_any 10 W (by decide))
    rw [show ((10 : Nat) : Int) = 10 from rfl] at P
    rw [room_top (by omega)]
    go_enter Tryd.func10, Tryd.ntmps10
    go_wp2_with fail
    refine (P.out _).mono ?_; rintro e w3 ⟨rfl, rfl⟩
    go_wp2_with fail
    go_ret
    exact ⟨rfl, rfl⟩
  · have t0 : decide ((m : Int) > 10) = false := decide_eq_false (by omega)
    have t0n : decide (10 < m) = false := decide_eq_false h1
    have P := Lib.hid (fun W => power_any m W (by omega))
    have e : room m = 2 ^ m := by unfold room; rw [Nat.min_eq_left (by omega)]
    rw [e]
    generalize 2 ^ m = R at P ⊢
    go_enter Tryd.func10, Tryd.ntmps10
    go_wp2_with fail
    refine (P.out _).mono ?_; rintro e w3 ⟨rfl, rfl⟩
    go_wp2_with fail
    go_ret
    exact ⟨rfl, rfl⟩

def cast (l : List Nat) : List Int := l.map fun i => ((i : Nat) : Int)
theorem cast_len {l : List Nat} : (cast l).length = l.length := List.length_map ..
theorem cast_app {l m : List Nat} : cast (l ++ m) = cast l ++ cast m := List.map_append ..
theorem cast_get {l : List Nat} {k i : Nat} (h : l[k]? = some i) : (cast l)[k]?.getD 0 = (i : Int) := by unfold cast; rw [List.getElem?_map, h]; rfl
theorem wf_small {x : Nat} (h : x ≤ 1000000) : (Lit.int .i64 (x : Int)).wf = true := by simp [Lit.wf, IntKind.min, IntKind.max, IntKind.signed, IntKind.bits]; omega
/-- A function over n places. -/
def tab (n : Nat) (f : Nat → Nat) : List Int := cast ((List.range n).map f)
theorem tab_len {n : Nat} {f : Nat → Nat} : (tab n f).length = n := by unfold tab; rw [cast_len]; simp
theorem tab_get {n : Nat} {f : Nat → Nat} {i : Nat} (h : i < n) : (tab n f)[i]?.getD 0 = (f i : Int) := by
  unfold tab
  exact cast_get (by rw [List.getElem?_map, List.getElem?_range h]; rfl)
theorem tab_set {n : Nat} {f : Nat → Nat} {i x : Nat} (h : i < n) : (tab n f).set i (x : Int) = tab n (put f i x) := by
  unfold tab cast
  refine List.ext_getElem? fun j => ?_
  rw [List.getElem?_set]
  simp only [List.length_map, List.length_range, List.getElem?_map]
  by_cases hj : i = j
  · subst hj
    rw [if_pos rfl, if_pos h, List.getElem?_range h, Option.map_some, Option.map_some, put_same]
  · rw [if_neg hj]
    rcases Nat.lt_or_ge j n with h1 | h1
    · rw [List.getElem?_range h1, Option.map_some, Option.map_some, Option.map_some, Option.map_some, put_other _ _ (fun e => hj e.symm)]
    · rw [List.getElem?_eq_none (by simpa using h1)]; rfl
theorem tab_zero {n : Nat} : List.replicate n (0 : Int) = tab n fun _ => 0 := by
  unfold tab cast
  rw [List.map_map]
  have e : ((List.range n).map ((fun i : Nat => ((i : Nat) : Int)) ∘ fun _ => 0)) = (List.range n).map fun _ => (0 : Int) := rfl
  rw [e, List.map_const', List.length_range]

structure DM (w0 w : World) (g1 g2 n : Nat) (u v x : Value) (A B C f h : List Int) : Prop where
  t : Trio w0 w u v x A B C
  m1 : OwnI w w0.heap.size (.slice (some ⟨g1, 0, none⟩) n n) f
  m2 : OwnI w w0.heap.size (.slice (some ⟨g2, 0, none⟩) n n) h
  ne : g1 ≠ g2
  u1 : u.ownBlock ≠ some g1
  u2 : u.ownBlock ≠ some g2
  v1 : v.ownBlock ≠ some g1
  v2 : v.ownBlock ≠ some g2
  x1 : x.ownBlock ≠ some g1
  x2 : x.ownBlock ≠ some g2
variable {w0 w w' : World} {g1 g2 n : Nat} {u v x u' v' x' : Value} {A B C A' B' C' f h : List Int}
theorem DM.lt (H : DM w0 w g1 g2 n u v x A B C f h) : (w0.heap.size ≤ g1 ∧ g1 < w.heap.size) ∧ w0.heap.size ≤ g2 ∧ g2 < w.heap.size := ⟨H.m1.lt g1 rfl, H.m2.lt g2 rfl⟩
theorem DM.below (H : DM w0 w g1 g2 n u v x A B C f h) (hb : Below w.heap.size w w') : DM w0 w' g1 g2 n u v x A B C f h := ⟨H.t.below hb, H.m1.below hb, H.m2.below hb, H.ne, H.u1, H.u2, H.v1, H.v2, H.x1, H.x2⟩
theorem DM.alloc (H : DM w0 w g1 g2 n u v x A B C f h) (o : Obj) : DM w0 (w.alloc o) g1 g2 n u v x A B C f h := H.below (balloc (brefl w) o)
theorem DM.drew (H : DM w0 w g1 g2 n u v x A B C f h) : DM w0 w.drew g1 g2 n u v x A B C f h := H.below (bdrewN (brefl w) 1)
theorem DM.free (H : DM w0 w g1 g2 n u v x A B C f h) : DM w0 w g1 g2 n u v (.slice none 0 0) A B [] f h := ⟨⟨H.t.o1, H.t.o2, OwnI.nil _ _, H.t.a12, Apt.nil _, Apt.nil _, H.t.bel⟩, H.m1, H.m2, H.ne, H.u1, H.u2, H.v1, H.v2, fun h => by simp [Value.ownBlock] at h, fun h => by simp [Value.ownBlock] at h⟩
theorem other {w w' : World} {g k : Nat} {v v' : Value} (h : v.ownBlock ≠ some g) (hk : g < w.heap.size) (hv : v'.ownBlock = v.ownBlock ∨ v'.ownBlock = some w.heap.size) : v'.ownBlock ≠ some g := fun e => by
  rcases hv with h1 | h1
  · exact h (h1 ▸ e)
  · rw [h1] at e; injection e with e; omega
theorem DM.app1 (H : DM w0 w g1 g2 n u v x A B C f h) (ho : OwnI w' w0.heap.size u' A') (hg : w.grownBy w' u.ownBlock) (hv : u'.ownBlock = u.ownBlock ∨ u'.ownBlock = some w.heap.size) : DM w0 w' g1 g2 n u' v x A' B C f h :=
  ⟨H.t.app1 ho hg hv, H.m1.more hg (.inr (fun e => H.u1 e.symm)), H.m2.more hg (.inr (fun e => H.u2 e.symm)), H.ne, other (w' := w') (k := 0) H.u1 H.lt.1.2 hv, other (w' := w') (k := 0) H.u2 H.lt.2.2 hv, H.v1, H.v2, H.x1, H.x2⟩
theorem DM.app2 (H : DM w0 w g1 g2 n u v x A B C f h) (ho : OwnI w' w0.heap.size v' B') (hg : w.grownBy w' v.ownBlock) (hv : v'.ownBlock = v.ownBlock ∨ v'.ownBlock = some w.heap.size) : DM w0 w' g1 g2 n u v' x A B' C f h :=
  ⟨H.t.app2 ho hg hv, H.m1.more hg (.inr (fun e => H.v1 e.symm)), H.m2.more hg (.inr (fun e => H.v2 e.symm)), H.ne, H.u1, H.u2, other (w' := w') (k := 0) H.v1 H.lt.1.2 hv, other (w' := w') (k := 0) H.v2 H.lt.2.2 hv, H.x1, H.x2⟩
theorem DM.app3 (H : DM w0 w g1 g2 n u v x A B C f h) (ho : OwnI w' w0.heap.size x' C') (hg : w.grownBy w' x.ownBlock) (hv : x'.ownBlock = x.ownBlock ∨ x'.ownBlock = some w.heap.size) : DM w0 w' g1 g2 n u v x' A B C' f h :=
  ⟨H.t.app3 ho hg hv, H.m1.more hg (.inr (fun e => H.x1 e.symm)), H.m2.more hg (.inr (fun e => H.x2 e.symm)), H.ne, H.u1, H.u2, H.v1, H.v2, other (w' := w') (k := 0) H.x1 H.lt.1.2 hv, other (w' := w') (k := 0) H.x2 H.lt.2.2 hv⟩
theorem DM.trio (H : DM w0 w g1 g2 n u v x A B C f h) {g : Nat} (hg : w.grownBy w' (some g)) (hu : u.ownBlock ≠ some g) (hv : v.ownBlock ≠ some g) (hx : x.ownBlock ≠ some g) (hB : w0.heap.size ≤ g) : Trio w0 w' u v x A B C :=
  ⟨H.t.o1.more hg (.inr hu), H.t.o2.more hg (.inr hv), H.t.o3.more hg (.inr hx), H.t.a12, H.t.a13, H.t.a23, gbelow H.t.bel (Nat.le_refl _) hg hB⟩
theorem DM.set1 (H : DM w0 w g1 g2 n u v x A B C f h) (j : Nat) (z : Int) (hz : (Lit.int .i64 z).wf = true) : DM w0 (w.setCell ⟨g1, j, none⟩ (.int .i64 z)) g1 g2 n u v x A B C (f.set j z) h :=
  ⟨H.trio (set_grown w g1 j _) H.u1 H.v1 H.x1 H.lt.1.1, own_set H.m1 j z hz, H.m2.more (set_grown w g1 j _) (.inr (fun e => H.ne (by injection e with e; exact e.symm))), H.ne, H.u1, H.u2, H.v1, H.v2, H.x1, H.x2⟩
theorem DM.set2 (H : DM w0 w g1 g2 n u v x A B C f h) (j : Nat) (z : Int) (hz : (Lit.int .i64 z).wf = true) : DM w0 (w.setCell ⟨g2, j, none⟩ (.int .i64 z)) g1 g2 n u v x A B C f (h.set j z) :=
  ⟨H.trio (set_grown w g2 j _) H.u2 H.v2 H.x2 H.lt.2.1, H.m1.more (set_grown w g2 j _) (.inr (fun e => H.ne (by injection e with e))), own_set H.m2 j z hz, H.ne, H.u1, H.u2, H.v1, H.v2, H.x1, H.x2⟩
theorem DM.start {w1 w2 : World} (hb : Below w0.heap.size w0 w1) (h1 : OwnI w1 w0.heap.size (.slice (some ⟨g1, 0, none⟩) n n) f) (hb2 : Below w1.heap.size w1 w2) (h2 : OwnI w2 w1.heap.size (.slice (some ⟨g2, 0, none⟩) n n) h) : DM w0 w2 g1 g2 n (.slice none 0 0) (.slice none 0 0) (.slice none 0 0) [] [] [] f h :=
  ⟨Trio.nil (bcall hb hb2), h1.below hb2, own_mono h2 hb.size, by have := (h1.lt g1 rfl).2; have := (h2.lt g2 rfl).1; omega, fun h => by simp [Value.ownBlock] at h, fun h => by simp [Value.ownBlock] at h, fun h => by simp [Value.ownBlock] at h, fun h => by simp [Value.ownBlock] at h, fun h => by simp [Value.ownBlock] at h, fun h => by simp [Value.ownBlock] at h⟩

/-- What holds ahead of slot s: c have sent, N picks are left. -/
structure Doc (n s c : Nat) (a m : Nat → Nat) (N : List Nat) (out all : List (Nat × Nat)) : Prop where
  len : out.length = c
  met : ∀ i, m i ≤ 5 * s
  late : ∀ i, a i ≤ s + 1024
  small : ∀ x ∈ N, x ≤ 1000
  eq : out ++ run n (1001 - s) s c a m N = all
variable {s c : Nat} {a m : Nat → Nat} {N : List Nat} {out all : List (Nat × Nat)}
theorem Doc.last (H : Doc n s c a m N out all) (h : ¬ s ≤ 1000) : out = all := by
  rw [← H.eq, show 1001 - s = 0 by omega]
  simp [run]
theorem Doc.gone (H : Doc n s c a m N out all) (h : c = n) : out = all := by
  rw [← H.eq, h, run_stop]
  simp
theorem Doc.go (h : s ≤ 1000) : ∃ k, 1001 - s = k + 1 ∧ k = 1001 - (s + 1) := ⟨1000 - s, by omega, by omega⟩
theorem Doc.stop (H : Doc n s c a m N out all) (h : s ≤ 1000) (h0 : c < n) (h1 : (now n a s).length ≠ 1) (h2 : N.length < (now n a s).length) : out = all := by
  obtain ⟨k, e, _⟩ := Doc.go h
  rw [← H.eq, e, run_out h1 h2]
  simp
theorem Doc.one (H : Doc n s c a m N out all) (h : s ≤ 1000) (h0 : c < n) {i : Nat} (h1 : now n a s = [i]) : Doc n (s + 1) (c + 1) a m N (out ++ [(i, s)]) all := by
  obtain ⟨k, e, e2⟩ := Doc.go h
  refine ⟨by rw [List.length_append, H.len]; rfl, fun j => by have := H.met j; omega, fun j => by have := H.late j; omega, H.small, ?_⟩
  have h3 := H.eq
  rw [e, run_one (by omega) h1] at h3
  rw [← h3, ← e2, List.append_assoc]
  rfl
theorem Doc.hit (H : Doc n s c a m N out all) (h : s ≤ 1000) (h0 : c < n) (h1 : (now n a s).length ≠ 1) (h2 : (now n a s).length ≤ N.length) (hn : n ≤ 5) :
    Doc n (s + 1) c (aat n s a m N (now n a s).length) (mat n s a m N (now n a s).length) (N.drop (now n a s).length) out all := by
  obtain ⟨k, e, e2⟩ := Doc.go h
  have hnow : (now n a s).length ≤ n := now_len
  refine ⟨H.len, fun j => ?_, ?_, fun x hx => H.small x (List.mem_of_mem_drop hx), ?_⟩
  · have := mat_le (n := n) (s := s) (a := a) H.met (Nat.le_refl _) h2 j
    omega
  · have : ∀ k, k ≤ (now n a s).length → k ≤ N.length → ∀ j, aat n s a m N k j ≤ s + 1 + 1024 := by
      intro k
      induction k with
      | zero => intro _ _ j; rw [at_zero.1]; have := H.late j; omega
      | succ k ih =>
        intro h3 h4 j
        rw [(at_next (List.getElem?_eq_getElem (by omega : k < (now n a s).length)) (List.getElem?_eq_getElem (by omega : k < N.length))).1]
        unfold put
        split
        · have h5 := Nat.mod_lt (N[k]'(by omega)) (room_pos (mat n s a m N k (now n a s)[k] + 1))
          have h6 := room_le (mat n s a m N k (now n a s)[k] + 1)
          omega
        · exact ih (by omega) (by omega) j
    exact this _ (Nat.le_refl _) h2
  · have h3 := H.eq
    rw [e, run_hit (by omega) h1 h2, at_all h2] at h3
    rw [← h3, ← e2]
end Go.Proofs.YteggajhpjdidcaaDoor.RetryDoc
