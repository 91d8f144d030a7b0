/- Package maxmin: what Share has in memory. No statement is proved here. -/
import Derived.Test.YtggnpecmldnmnaaDoorMax2
import Derived.Test.YtggnpecmldnmnaaDoorOwnI
import Derived.Test.YtggnpecmldnmnaaDoorFill
namespace Go.Proofs.YtggnpecmldnmnaaDoor.Maxmin
open Go.ChangeShapes Go.WideShapes Go.ChangeAt Go.RowKit Go.Proofs.YtggnpecmldnmnaaDoor.Kit Go.Proofs.YtggnpecmldnmnaaDoor.App Go.Proofs.YtggnpecmldnmnaaDoor.Err Go.Proofs.YtggnpecmldnmnaaDoor.Drr Go.Proofs.YtggnpecmldnmnaaDoor.RowQ
set_option linter.unusedVariables false
set_option maxRecDepth 20000

/-- Rates, what is left, and who is active, each in a block of its own. -/
structure Mem (w1 W : World) (G1 G3 n : Nat) (v2 : Value) (rs ls A : List Int) : Prop where
  bel : Below w1.heap.size w1 W
  o1 : OwnI W w1.heap.size (.slice (some ⟨G1, 0, none⟩) n n) rs
  o2 : OwnI W w1.heap.size v2 ls
  o3 : RowQ W G3 n A
  n12 : v2.ownBlock ≠ some G1
  n13 : G1 ≠ G3
  n23 : v2.ownBlock ≠ some G3
  lo3 : w1.heap.size ≤ G3
variable {w1 W W' : World} {G1 G3 n : Nat} {v2 : Value} {rs ls A : List Int}
theorem wf_small {x : Int} (h : -100000 ≤ x ∧ x ≤ 100000) : (Lit.int .i64 x).wf = true := by
  simp [Lit.wf, IntKind.min, IntKind.max, IntKind.signed, IntKind.bits]; omega
theorem Mem.lo1 (H : Mem w1 W G1 G3 n v2 rs ls A) : w1.heap.size ≤ G1 := (H.o1.lt G1 rfl).1
theorem Mem.drewN (H : Mem w1 W G1 G3 n v2 rs ls A) (m : Nat) : Mem w1 (W.drewN m) G1 G3 n v2 rs ls A := ⟨bdrewN H.bel m, H.o1, H.o2, H.o3, H.n12, H.n13, H.n23, H.lo3⟩
theorem Mem.call (H : Mem w1 W G1 G3 n v2 rs ls A) (hb : Below W.heap.size W W') : Mem w1 W' G1 G3 n v2 rs ls A :=
  ⟨bcall H.bel hb, H.o1.below hb, H.o2.below hb, H.o3.below hb, H.n12, H.n13, H.n23, H.lo3⟩
theorem Mem.set1 (H : Mem w1 W G1 G3 n v2 rs ls A) (k : Nat) (x : Int) (hx : (Lit.int .i64 x).wf = true) : Mem w1 (W.setCell ⟨G1, k, none⟩ (.int .i64 x)) G1 G3 n v2 (rs.set k x) ls A :=
  ⟨gbelow H.bel (Nat.le_refl _) (set_grown W G1 k _) H.lo1, own_set H.o1 k x hx, H.o2.more (set_grown W G1 k _) (.inr H.n12), H.o3.more (set_grown W G1 k _) (fun e => H.n13 (Option.some.inj e).symm), H.n12, H.n13, H.n23, H.lo3⟩
theorem Mem.set2 {G2 L c2 : Nat} (H : Mem w1 W G1 G3 n (.slice (some ⟨G2, 0, none⟩) L c2) rs ls A) (k : Nat) (x : Int) (hx : (Lit.int .i64 x).wf = true) : Mem w1 (W.setCell ⟨G2, k, none⟩ (.int .i64 x)) G1 G3 n (.slice (some ⟨G2, 0, none⟩) L c2) rs (ls.set k x) A :=
  ⟨gbelow H.bel (Nat.le_refl _) (set_grown W G2 k _) (H.o2.lt G2 rfl).1, H.o1.more (set_grown W G2 k _) (.inr (fun e => H.n12 e.symm)), own_set H.o2 k x hx, H.o3.more (set_grown W G2 k _) (fun e => H.n23 e.symm), H.n12, H.n13, H.n23, H.lo3⟩
theorem Mem.grown3 {A' : List Int} (H : Mem w1 W G1 G3 n v2 rs ls A) (hg : W.grownBy W' (some G3)) (h3 : RowQ W' G3 n A') : Mem w1 W' G1 G3 n v2 rs ls A' :=
  ⟨gbelow H.bel (Nat.le_refl _) hg H.lo3, H.o1.more hg (.inr (fun e => H.n13 (Option.some.inj e))), H.o2.more hg (.inr H.n23), h3, H.n12, H.n13, H.n23, H.lo3⟩
theorem Mem.set3 (H : Mem w1 W G1 G3 n v2 rs ls A) (k : Nat) (x : Int) (hx : (Lit.int .i64 x).wf = true) : Mem w1 (W.setCell ⟨G3, k, none⟩ (.int .i64 x)) G1 G3 n v2 rs ls (A.set k x) := H.grown3 (set_grown W G3 k _) (H.o3.set k x hx)

/-- The rates behind some flows that were raised. -/
def rt (n : Nat) (h : Nat → Int) (A : List Nat) (j : Nat) : List Int := lt n fun y => h y.toNat + tk ((ci (A.take j)).map fun z => (z, 1)) y
/-- What is left behind j flows and k links of the next. -/
def lv (room : List Int) (ws : List (List Int)) (h : Nat → Int) (A : List Nat) (j k : Nat) : List Int := lt room.length fun y => lf room ws h y - tk (part ws (fun _ => 1) A j k) y
variable {room : List Int} {ws : List (List Int)} {h : Nat → Int} {o : Nat → Bool} {A : List Nat}
theorem rt_zero : rt n h A 0 = lt n fun y => h y.toNat := by
  unfold rt
  refine lt_congr fun k _ => ?_
  simp [ci, tk]
theorem lv_zero : lv room ws h A 0 0 = lt room.length fun y => lf room ws h y := by
  unfold lv
  refine lt_congr fun k _ => ?_
  rw [part_zero]; simp [tk]
theorem ci_snoc {j i : Nat} (hj : j < A.length) (hi : A[j]?.getD 0 = i) : ci (A.take (j + 1)) = ci (A.take j) ++ [(i : Int)] := by
  subst hi
  unfold ci
  rw [List.take_add_one, List.getElem?_eq_getElem hj, List.map_append]
  rfl
theorem not_before (hd : A.Nodup) {j i : Nat} (hj : j < A.length) (hi : A[j]?.getD 0 = i) : (i : Int) ∉ ci (A.take j) := by
  intro hm
  unfold ci at hm
  obtain ⟨a, ha, e⟩ := List.mem_map.1 hm
  have e : a = i := by omega
  subst e
  have h2 : (A.take (j + 1)).Nodup := hd.sublist (List.take_sublist _ _)
  rw [List.take_add_one, List.getElem?_eq_getElem hj, List.nodup_append] at h2
  rw [List.getElem?_eq_getElem hj] at hi
  exact h2.2.2 _ ha _ (by simp) hi.symm
theorem rt_get (hd : A.Nodup) {j i : Nat} (hj : j < A.length) (hi : A[j]?.getD 0 = i) (hin : i < n) : (rt n h A j)[i]?.getD 0 = h i := by
  unfold rt
  rw [lt_get _ _ _ hin, tk_none _ _ _ (not_before hd hj hi)]
  simp
theorem rt_set (hd : A.Nodup) {j i : Nat} (hj : j < A.length) (hi : A[j]?.getD 0 = i) : (rt n h A j).set i (h i + 1) = rt n h A (j + 1) := by
  unfold rt
  rw [lt_set]
  refine lt_congr fun k _ => ?_
  rw [ci_snoc hj hi, List.map_append]
  show _ = _ + tk (_ ++ [((i : Int), 1)]) _
  rw [tk_snoc]
  by_cases e : (k : Int) = (i : Int)
  · rw [if_pos e, if_pos e.symm, e, tk_none _ _ _ (not_before hd hj hi)]
    simp
  · rw [if_neg e, if_neg (fun e2 => e e2.symm)]; omega
theorem acts_nodup (n : Nat) (o : Nat → Bool) : (acts n o).Nodup := List.nodup_range.sublist List.filter_sublist
theorem acts_in {i : Nat} : i ∈ acts n o ↔ i < n ∧ o i = true := by simp [acts]
theorem ci_nodup (hd : A.Nodup) : (ci A).Nodup := by
  unfold ci
  unfold List.Nodup at hd ⊢
  rw [List.pairwise_map]
  exact hd.imp fun h e => h (by omega)
theorem rt_all : rt n h (acts n o) (acts n o).length = lt n fun y => inc h o y.toNat := by
  unfold rt
  rw [List.take_length]
  refine lt_congr fun k hk => ?_
  rw [tk_once (ci_nodup (acts_nodup n o))]
  show h k + _ = inc h o k
  unfold inc
  by_cases ho : o k = true
  · rw [if_pos ho, if_pos (show (k : Int) ∈ ci (acts n o) from List.mem_map.2 ⟨k, acts_in.2 ⟨hk, ho⟩, rfl⟩)]
  · rw [if_neg ho, if_neg]
    intro hm
    obtain ⟨a, ha, e⟩ := List.mem_map.1 hm
    have e : a = k := by omega
    subst e
    exact ho (acts_in.1 ha).2
theorem lv_set {j k i x : Nat} (hi : A[j]?.getD 0 = i) (hk : k < (row ws i).length) (hx : (row ws i)[k]?.getD 0 = (x : Int)) (t : Int) (ht : lf room ws h (x : Int) - tk (part ws (fun _ => 1) A j k) (x : Int) - 1 = t) : (lv room ws h A j k).set x t = lv room ws h A j (k + 1) := by
  unfold lv
  rw [lt_set]
  refine lt_congr fun y _ => ?_
  rw [part_step hi hk, tk_snoc, hx]
  by_cases e : (y : Int) = (x : Int)
  · rw [if_pos e, if_pos e.symm, ← ht, e]; omega
  · rw [if_neg e, if_neg (fun e2 => e e2.symm)]; omega
theorem lv_next {j i : Nat} (hj : j < A.length) (hi : A[j]?.getD 0 = i) : lv room ws h A j (row ws i).length = lv room ws h A (j + 1) 0 := by
  unfold lv
  rw [part_next hj hi]
theorem lv_all (hd : ∀ w ∈ ws, w.Nodup) : lv room ws h (acts ws.length o) (acts ws.length o).length 0 = lt room.length fun y => lf room ws (inc h o) y := by
  unfold lv
  refine lt_congr fun k _ => ?_
  rw [part_all, tk_acts hd, lf_inc]
  rfl
theorem less_acts : less (fun v => hit room ws h o v.toNat) (ci (acts n o)) = ci (acts n (cut room ws h o)) := by
  unfold less ci acts
  rw [List.filter_map, List.filter_filter]
  congr 1
  refine List.filter_congr fun i _ => ?_
  unfold cut
  show (!hit room ws h o (i : Int).toNat && o i) = _
  rw [Int.toNat_natCast, Bool.and_comm]
theorem cut_none (hn : ∀ i, i < n → o i = true → hit room ws h o i = false) : acts n (cut room ws h o) = acts n o := by
  unfold acts
  refine List.filter_congr fun i hi => ?_
  unfold cut
  cases ho : o i with
  | false => rfl
  | true => rw [hn i (List.mem_range.1 hi) ho]; rfl
theorem cut_less (hc : ∃ i, i < n ∧ o i = true ∧ hit room ws h o i = true) : (acts n (cut room ws h o)).length < (acts n o).length := by
  obtain ⟨i, hi, ho, hh⟩ := hc
  exact filter_less (fun j hj hp => by unfold cut at hp; rw [Bool.and_eq_true] at hp; exact hp.1) (List.mem_range.2 hi) ho (by unfold cut; rw [ho, hh]; rfl)
theorem acts_len (n : Nat) (o : Nat → Bool) : (acts n o).length ≤ n := by
  have := List.length_filter_le o (List.range n)
  rwa [List.length_range] at this
theorem acts_all (n : Nat) : ci (acts n all) = lt n fun y => y := by
  have : acts n all = List.range n := by
    unfold acts
    rw [List.filter_eq_self]
    intro i _; rfl
  rw [this]; rfl
theorem runs_done {k : Nat} {r : Nat → Int} (hr : Runs room ws h o k r) (h0 : (acts ws.length o).length = 0) : r = h := by
  have hn : ∀ i, i < ws.length → o i ≠ true := fun i hi ho => by
    have := List.length_pos_of_mem (acts_in.2 ⟨hi, ho⟩)
    omega
  cases hr with
  | done => rfl
  | cut _ _ k _ hc _ => obtain ⟨i, hi, ho, _⟩ := hc; exact absurd ho (hn i hi)
  | inc _ _ k _ hs _ _ => obtain ⟨i, hi, ho⟩ := hs; exact absurd ho (hn i hi)
theorem runs_step {k : Nat} {r : Nat → Int} (hr : Runs room ws h o k r) (h0 : 0 < (acts ws.length o).length) : ∃ k', k' < k ∧
    (((∃ i, i < ws.length ∧ o i = true ∧ hit room ws h o i = true) ∧ Runs room ws h (cut room ws h o) k' r) ∨ ((∀ i, i < ws.length → o i = true → hit room ws h o i = false) ∧ Runs room ws (inc h o) o k' r)) := by
  cases hr with
  | done _ _ hd =>
    obtain ⟨i, hi⟩ := List.exists_mem_of_length_pos h0
    have := acts_in.1 hi
    rw [hd i this.1] at this
    exact absurd this.2 (by decide)
  | cut _ _ k _ hc h2 => exact ⟨k, Nat.lt_succ_self k, .inl ⟨hc, h2⟩⟩
  | inc _ _ k _ hs hn h2 => exact ⟨k, Nat.lt_succ_self k, .inr ⟨hn, h2⟩⟩
theorem cell_keep {w w' : World} {b k : Nat} {v : Value} {row : Option Nat} (h : w.cell? ⟨b, k, none⟩ = some v) (hg : w.grownBy w' row) (hne : some b ≠ row) : w'.cell? ⟨b, k, none⟩ = some v := by
  have hlt : b < w.heap.size := by
    rcases Nat.lt_or_ge b w.heap.size with hlt | hge
    · exact hlt
    · unfold World.cell? at h; rw [Array.getElem?_eq_none hge] at h; simp at h
  exact (World.cell?_of_block (hg.block b hlt hne)).trans h
theorem asked_of {w0 wr w5 : World} {G2 n1 c2 B cap : Nat} {p : Option Addr} {rs A : List Int} (H : Mem w0 wr G1 G3 n (.slice (some ⟨G2, 0, none⟩) n1 c2) rs (lt room.length fun y => lf room ws h y) A) (hL : n1 = room.length) (hd : ∀ w ∈ ws, w.Nodup)
    (hU : Usr ws (acts ws.length o) wr w5 (.slice (some ⟨G2, 0, none⟩) n1 c2) (acts ws.length o).length 0) (hB : ∀ W, Below w0.heap.size w0 W → W.cell? ⟨B, 0, none⟩ = some (.slice p n cap)) (hBlt : B < w0.heap.size) (W : World)
    (hW : (w5.alloc (.cells #[.func (.func 23) #[] #[.pointer (some ⟨wr.heap.size, 0, none⟩), .pointer (some ⟨wr.heap.size + 1, 0, none⟩)]] 43)).grownBy W (some G3)) :
    Asked room ws h o w0 p n cap B wr.heap.size (wr.heap.size + 1) w5.heap.size G2 c2 W := by
  have h5 := H.call hU.bel
  have hlt3 := H.o3.lt
  have hsz := hU.bel.size
  have hblt := hU.blk.lt
  have hg6 := World.grownBy_alloc w5 (.cells #[.func (.func 23) #[] #[.pointer (some ⟨wr.heap.size, 0, none⟩), .pointer (some ⟨wr.heap.size + 1, 0, none⟩)]] 43) none
  have ne : ∀ b, b ≠ G3 → some b ≠ some G3 := fun b hb e => hb (Option.some.inj e)
  have hbel : Below w0.heap.size w0 W := gbelow (h5.bel.alloc h5.bel.size _) (Nat.le_refl _) hW H.lo3
  subst hL
  refine ⟨hbel, hB W hbel, cell_keep (cell_keep hU.box hg6 (by simp)) hW (ne _ (by omega)), ?_, cell_keep (by go_simp) hW (ne _ (by omega)), fun x hx => ?_⟩
  · have h1 := (hU.blk.alloc (.cells #[.func (.func 23) #[] #[.pointer (some ⟨wr.heap.size, 0, none⟩), .pointer (some ⟨wr.heap.size + 1, 0, none⟩)]] 43)).more hW (ne _ (by omega))
    have e : (ar 6 fun y => Value.int .i64 (us ws o (y : Int))) = ar 6 fun y => .int .i64 (tk (part ws (fun _ => 1) (acts ws.length o) (acts ws.length o).length 0) (y : Int)) := ar_congr fun y _ => by
      rw [part_all, tk_acts hd]; rfl
    rw [e]
    exact h1
  · have h1 := own_cell h5.o2 x (by rw [lt_len]; exact hx)
    rw [lt_get _ _ _ hx] at h1
    exact cell_keep (cell_keep h1 hg6 (by simp)) hW (fun e => H.n23 e)
theorem some_link (hg : Good room ws) (hn : 0 < ws.length) : 0 < room.length := by
  obtain ⟨x, hx⟩ := List.exists_mem_of_ne_nil _ (hg.full _ (row_in hn))
  have := hg.here _ (row_in hn) x hx
  omega
theorem lf_zero : (lt room.length fun y => lf room ws (fun _ => 0) y) = room := by
  have : (lt room.length fun y => lf room ws (fun _ => 0) y) = lt room.length fun x => room[x.toNat]?.getD 0 := lt_congr fun k _ => by
    unfold lf cp
    rw [ld_zero (fun _ _ _ => rfl)]; omega
  rw [this, ← lt_of]
theorem acts_start (n : Nat) : ci (acts n all) = fill (lt n fun y => y) n := by
  rw [acts_all]
  have := fill_all (lt n fun y => y)
  rw [lt_len] at this
  exact this.symm
theorem zeros (n : Nat) : List.replicate n (0 : Int) = lt n fun _ => 0 := by
  unfold lt; rw [List.map_const', List.length_range]
theorem lf_in (hg : Good room ws) {t : Int} (H : Inv room ws h o t) {x : Nat} (hx : x < room.length) : 0 ≤ lf room ws h (x : Int) ∧ lf room ws h (x : Int) ≤ 1000 := by
  refine ⟨H.left _ (by omega) (by omega), ?_⟩
  have h1 := ld_nonneg (ws := ws) (f := h) (x := (x : Int)) (fun i hi => (H.any i hi).1)
  have h2 := hg.caps (room[x]) (List.getElem_mem hx)
  unfold lf cp
  rw [Int.toNat_natCast, List.getElem?_eq_getElem hx]
  show room[x] - _ ≤ 1000
  omega
end Go.Proofs.YtggnpecmldnmnaaDoor.Maxmin
