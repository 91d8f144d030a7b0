/- The contract of the iterator that cuts bits in fives, of package line. No statement is proved here. -/
import Derived.Test.YtooicigocljomaaDoorLine5
namespace Go.Proofs.YtooicigocljomaaDoor.Line
open Go.ChangeShapes Go.WideShapes Go.ChangeAt Go.RowKit Go.Shelf Go.Proofs.YtooicigocljomaaDoor.Kit Go.Proofs.YtooicigocljomaaDoor.It Go.Proofs.YtooicigocljomaaDoor.LineMath
set_option linter.unusedVariables false
set_option maxRecDepth 100000
attribute [local go_sem] Oper.semAt_some

/-- The k-th five of some bits, as the value of an array. -/
def fiveAt (zs : List Int) (k : Nat) : Array Value := #[.agg #[.int .i64 (zs[5 * k]?.getD 0), .int .i64 (zs[5 * k + 1]?.getD 0), .int .i64 (zs[5 * k + 2]?.getD 0), .int .i64 (zs[5 * k + 3]?.getD 0), .int .i64 (zs[5 * k + 4]?.getD 0)]]
def fivesOf (zs : List Int) (m : Nat) : List (Array Value) := (List.range m).map (fiveAt zs)

theorem setRow_alloc (w : World) (t : TypeId) (a b : Array Value) : (w.alloc (.cells a t)).setRow w.heap.size b = w.alloc (.cells b t) := by
  have e : ((w.alloc (.cells a t)).setRow w.heap.size b).heap = (w.alloc (.cells b t)).heap := by
    apply Array.ext_getElem?
    intro i
    rcases Nat.lt_trichotomy i w.heap.size with h | h | h
    · rw [setRow_other _ _ _ _ (by omega), Below.heap_alloc w _ i h, Below.heap_alloc w _ i h]
    · subst h
      rw [setRow_heap _ _ a b t (0, 0) (App.alloc_new w _), App.alloc_new w _]
    · rw [Array.getElem?_eq_none (by simp [World.setRow]; omega), Array.getElem?_eq_none (by simp; omega)]
  have e2 : ∀ X Y : World, X.heap = Y.heap → X = { Y with heap := X.heap } → X = Y := fun X Y h1 h2 => by rw [h2, h1]
  exact e2 _ _ e rfl

theorem copy5 (w : World) (b o : Nat) (x0 x1 x2 x3 x4 : Int) (hb : b < w.heap.size) (d0 : w.cell? ⟨b, o, none⟩ = some (.int .i64 x0)) (d1 : w.cell? ⟨b, o + 1, none⟩ = some (.int .i64 x1)) (d2 : w.cell? ⟨b, o + 2, none⟩ = some (.int .i64 x2)) (d3 : w.cell? ⟨b, o + 3, none⟩ = some (.int .i64 x3)) (d4 : w.cell? ⟨b, o + 4, none⟩ = some (.int .i64 x4)) :
    (Builtin.copy_ #[22, 22] 3 #[.slice (some ⟨w.heap.size, 0, none⟩) 5 5, .slice (some ⟨b, o, none⟩) 5 5]).run Tryd.prog (w.alloc (.cells #[.int .i64 0, .int .i64 0, .int .i64 0, .int .i64 0, .int .i64 0] 43))
      = .ok (.int .i64 5) (w.alloc (.cells #[.int .i64 x0, .int .i64 x1, .int .i64 x2, .int .i64 x3, .int .i64 x4] 43)) := by
  have hr := run_copy_row (P := Tryd.prog) (w.alloc (.cells #[.int .i64 0, .int .i64 0, .int .i64 0, .int .i64 0, .int .i64 0] 43)) 22 22 3 3 w.heap.size 0 5 5 ⟨b, o, none⟩ 5 5 _ 43 [.int .i64 x0, .int .i64 x1, .int .i64 x2, .int .i64 x3, .int .i64 x4]
    Tryd.underlying22 (by kernel_rfl) (App.alloc_new w _) rfl (fun j v hv => by
      rw [add_plain, World.cell?_alloc_lt w _ _ hb]
      rcases j with _|_|_|_|_|j
      · cases hv; exact d0
      · cases hv; exact d1
      · cases hv; exact d2
      · cases hv; exact d3
      · cases hv; exact d4
      · simp at hv) (by simp) (fun v hv => by
      simp only [List.mem_cons, List.not_mem_nil, or_false] at hv
      rcases hv with rfl | rfl | rfl | rfl | rfl <;> rfl)
  rw [hr, setRow_alloc]
  rfl

set_option maxHeartbeats 4000000 in
theorem cut1_in (l B b off cap m n : Nat) (zs : List Int) (p : Option Addr) (hp : 0 < n → p = some ⟨b, off, none⟩) (J Jx : Nat → World → Prop) (W : World) (hn : n ≤ 600) (hnm : 5 * m = n) (hcap : n ≤ cap) (hcap2 : cap ≤ 9223372036854775807)
    (h1 : W.cell? ⟨B, 0, none⟩ = some (.slice p n cap))
    (h2 : ∀ j : Nat, j < n → W.cell? ⟨b, off + j, none⟩ = some (.int .i64 (zs[j]?.getD 0)))
    (hl : l < W.heap.size) (hO : OwnFrom W.heap.size J) (hOx : OwnFrom W.heap.size Jx)
    (hY : ∀ k (hk : k < m) W1, J k W1 → W.heap.size + 3 ≤ W1.heap.size → YieldAt Fence.wide 0 Tryd.prog l (fiveAt zs k) W1 fun e W' =>
      ((e = .returned (.bool true) ∧ J (k + 1) W') ∨ (e = .returned (.bool false) ∧ Jx (k + 1) W')) ∧ KeptD (fun k => k = B ∨ k = b) W.heap.size W.heap.size (W.heap.size + 3) W1 W')
    (h0 : J 0 W) :
    CallsIn Fence.wide 0 Tryd.prog 39 #[.func (.yield l) #[] #[], .pointer (some ⟨B, 0, none⟩)] W fun e W' => (∃ v, e = .returned v) ∧ (J m W' ∨ ∃ k, Jx k W') := by
  refine callsIn_of_wp_marks Tryd.func39 rfl trivial ?_ rfl
  simp only [Tryd.ntmps39, List.size_toArray, List.length_cons, List.length_nil, Nat.reduceAdd, Nat.reduceSub, Array.replicate_succ, Array.replicate_zero, List.push_toArray, List.append_toArray, List.nil_append, List.cons_append]
  have hB := cell_lt h1
  gi_wp2_with (refine ⟨trivial, rfl, ?_⟩; gi_at_call 40; refine (callsIn_wide.2 (chunk_any _ _ _ _)).mono ?_; rintro e w' ⟨rfl, rfl⟩)
  have hs0 : (((W.alloc (.cells #[.func (.yield l) #[] #[]] 64)).alloc (.cells #[.slice p n cap] 22)).alloc (.cells #[.int .i64 5] 3)).heap.size = W.heap.size + 3 := by simp
  have hK2 : Kept (fun k => k = B ∨ k = b) W.heap.size W (((W.alloc (.cells #[.func (.yield l) #[] #[]] 64)).alloc (.cells #[.slice p n cap] 22)).alloc (.cells #[.int .i64 5] 3)) := ((Kept.alloc _).trans (Kept.alloc _)).trans (Kept.alloc _)
  have hJ2 : J 0 (((W.alloc (.cells #[.func (.yield l) #[] #[]] 64)).alloc (.cells #[.slice p n cap] 22)).alloc (.cells #[.int .i64 5] 3)) := hO.alloc _ (hO.alloc _ (hO.alloc _ h0))
  have c0 : (((W.alloc (.cells #[.func (.yield l) #[] #[]] 64)).alloc (.cells #[.slice p n cap] 22)).alloc (.cells #[.int .i64 5] 3)).cell? ⟨W.heap.size, 0, none⟩ = some (.func (.yield l) #[] #[]) := by go_simp
  have c1 : (((W.alloc (.cells #[.func (.yield l) #[] #[]] 64)).alloc (.cells #[.slice p n cap] 22)).alloc (.cells #[.int .i64 5] 3)).cell? ⟨W.heap.size + 1, 0, none⟩ = some (.slice p n cap) := by go_simp
  have c2 : (((W.alloc (.cells #[.func (.yield l) #[] #[]] 64)).alloc (.cells #[.slice p n cap] 22)).alloc (.cells #[.int .i64 5] 3)).cell? ⟨W.heap.size + 1 + 1, 0, none⟩ = some (.int .i64 5) := by go_simp
  generalize (((W.alloc (.cells #[.func (.yield l) #[] #[]] 64)).alloc (.cells #[.slice p n cap] 22)).alloc (.cells #[.int .i64 5] 3)) = w2 at *
  have hd : ∀ j : Nat, j < n → w2.cell? ⟨b, off + j, none⟩ = some (.int .i64 (zs[j]?.getD 0)) := fun j hj => hK2.cell (.inl (.inr rfl)) (h2 j hj)
  have hsa : w2.heap.size ≤ W.heap.size + 3 := Nat.le_of_eq hs0
  have hsb : W.heap.size + 3 ≤ w2.heap.size := Nat.le_of_eq hs0.symm
  clear hs0
  have HN := Lib.hid hnm
  refine wp_iterD (tot := chunks b off m) (d := 0) (gf := 50) (lb := #[.pointer (some ⟨W.heap.size + 1, 0, none⟩), .pointer (some ⟨W.heap.size + 1 + 1, 0, none⟩)]) rfl (enters_of Tryd.func50 (by kernel_rfl) rfl)
    (chunk_iter _ _ b off m n cap p hp w2 hn hnm hcap hcap2 c1 c2) (Kept.refl _ _ _) (fun k hk => by rcases hk with rfl | rfl <;> omega) (fun x hx => by simp [chunks, chunkAt] at hx; obtain ⟨k, _, rfl⟩ := hx; rfl)
    (fun k W' => J k W' ∧ (∀ j : Nat, j < n → W'.cell? ⟨b, off + j, none⟩ = some (.int .i64 (zs[j]?.getD 0))) ∧ W'.cell? ⟨W.heap.size, 0, none⟩ = some (.func (.yield l) #[] #[]))
    (fun c k W' => c = .ret ∧ Jx k W')
    (OwnFrom.and (ownFrom_more hO (by omega)) (Own.from (fun s A B row hs hg hr => ⟨fun j hj => cell_kept (hs.1 j hj) hg hr, cell_kept hs.2 hg hr⟩) _))
    (fun c => OwnFrom.and (ownFrom_pure _ (fun _ => c = .ret)) (ownFrom_more hOx (by omega)))
    ⟨hJ2, hd, c0⟩
    (fun _ W => W) (fun _ W => ⟨rfl, rfl, rfl, Nat.le_refl _, fun _ _ _ => rfl⟩) (fun _ _ _ => True) (fun _ _ => trivial) (fun _ _ _ _ _ _ _ _ => trivial)
    (fun k _ => { tmps := #[.func (.yield l) #[] #[], .pointer (some ⟨B, 0, none⟩), .pointer (some ⟨W.heap.size, 0, none⟩), .slice (some ⟨b, off + 5 * k, none⟩) 5 5, undef, .slice p n cap,
      .func (.func 50) #[] #[.pointer (some ⟨W.heap.size + 1, 0, none⟩), .pointer (some ⟨W.heap.size + 1 + 1, 0, none⟩)], .slice (some ⟨b, off + 5 * k, none⟩) 5 5, undef, undef, undef, undef, undef, undef, undef], defers := [] }) ?assign ?body ?done ?stop
  case assign =>
    intro l' k hk W' K hKK
    simp only [chunks, List.getElem_map, List.getElem_range, chunkAt]
    gi_wp2
    exact hKK
  case body =>
    rintro l' k hk g W' hl1 hl2 hg1 hg2 _ ⟨hJk, hdat, hyl⟩
    have hk' : k < m := by simpa [chunks] using hk
    have hk5 : 5 * k + 5 ≤ n := by omega
    clear hnm hg1
    obtain rfl := hp (by omega)
    have d0 := hdat (5 * k) (by omega)
    have d1 := hdat (5 * k + 1) (by omega)
    have d2 := hdat (5 * k + 2) (by omega)
    have d3 := hdat (5 * k + 3) (by omega)
    have d4 := hdat (5 * k + 4) (by omega)
    rw [← Nat.add_assoc] at d1 d2 d3 d4
    have y0 := hyl
    obtain ⟨fn, tmps, asg, body, hy, hR⟩ := hY k hk' (W'.alloc (.cells #[.int .i64 (zs[5 * k]?.getD 0), .int .i64 (zs[5 * k + 1]?.getD 0), .int .i64 (zs[5 * k + 2]?.getD 0), .int .i64 (zs[5 * k + 3]?.getD 0), .int .i64 (zs[5 * k + 4]?.getD 0)] 43)) (hO.alloc _ hJk) (by simp; omega)
    have fin0 : ∀ o W3, KeptD (fun k => k = B ∨ k = b) W.heap.size W.heap.size (W.heap.size + 3) (W'.alloc o) W3 → KeptD (fun k => k = W.heap.size + 1 ∨ k = W.heap.size + 1 + 1) w2.heap.size (w2.heap.size + 2) (w2.heap.size + 2 + 0) W' W3 ∧
        (∀ j : Nat, j < n → W3.cell? ⟨b, off + j, none⟩ = some (.int .i64 (zs[j]?.getD 0))) ∧ W3.cell? ⟨W.heap.size, 0, none⟩ = some (.func (.yield l) #[] #[]) := fun o W3 h3 => by
      have h4 := (KeptD.alloc o).trans h3
      exact ⟨h4.mono (fun j hj hq => .inr (by rcases hq with rfl | rfl <;> omega)) (fun j hj h1 h2 => by omega) (by omega), fun j hj => h4.cell (.inl (.inr rfl)) (hdat j hj), h4.cell (p := ⟨W.heap.size, 0, none⟩) (.inr ⟨Nat.le_refl _, by show W.heap.size < _; omega⟩) hyl⟩
    have fin := Lib.hid fin0
    clear fin0 hdat hyl
    unfold fiveAt at hy
    generalize zs[5 * k]?.getD 0 = x0 at *
    generalize zs[5 * k + 1]?.getD 0 = x1 at *
    generalize zs[5 * k + 2]?.getD 0 = x2 at *
    generalize zs[5 * k + 3]?.getD 0 = x3 at *
    generalize zs[5 * k + 4]?.getD 0 = x4 at *
    have hblk : (⟨b, off + 5 * k, none⟩ : Addr).block < W'.heap.size := cell_lt d0
    have hcp := copy5 W' b (off + 5 * k) x0 x1 x2 x3 x4 hblk d0 d1 d2 d3 d4
    have y1 : ∀ o, (W'.alloc o).cell? ⟨W.heap.size, 0, none⟩ = some (.func (.yield l) #[] #[]) := fun o => (World.cell?_alloc_lt W' _ _ (cell_lt y0)).trans y0
    have y2 := y1 (.cells #[.int .i64 x0, .int .i64 x1, .int .i64 x2, .int .i64 x3, .int .i64 x4] 43)
    clear hd hY h2 y1
    gi_wp2
    refine ⟨rfl, hR.mono ?_⟩
    rintro e W3 ⟨(⟨rfl, hJ3⟩ | ⟨rfl, hJ3⟩), hk3⟩
    · gi_wp2
      exact ⟨(fin.out _ _ hk3).1, hJ3, (fin.out _ _ hk3).2⟩
    · gi_wp2
      exact ⟨(fin.out _ _ hk3).1, rfl, hJ3⟩
  case done =>
    rintro D W' hD ⟨hJk, _⟩ hKD
    have hlen : (chunks b off m).length = m := by simp [chunks]
    rw [hlen] at hJk
    gi_wp2
    refine ⟨by simp, .inl ⟨_, _, rfl, run_takeDeferred hKD, ?_⟩⟩
    exact ⟨_, results_none rfl _ _ _, ⟨_, rfl⟩, .inl (hO.putObj _ hJk (by omega) hKD rfl)⟩
  case stop =>
    rintro D c k W' hD ⟨rfl, hJk⟩ hKD
    gi_wp2
    refine ⟨by simp, .inl ⟨_, _, rfl, run_takeDeferred hKD, ?_⟩⟩
    exact ⟨_, results_none rfl _ _ _, ⟨_, rfl⟩, .inr ⟨k, hOx.putObj _ hJk (by omega) hKD rfl⟩⟩

theorem cut_iter (B b off cap m n : Nat) (zs : List Int) (p : Option Addr) (hp : 0 < n → p = some ⟨b, off, none⟩) (w0 : World) (hn : n ≤ 600) (hnm : 5 * m = n) (hcap : n ≤ cap) (hcap2 : cap ≤ 9223372036854775807)
    (h1 : w0.cell? ⟨B, 0, none⟩ = some (.slice p n cap)) (h2 : ∀ j : Nat, j < n → w0.cell? ⟨b, off + j, none⟩ = some (.int .i64 (zs[j]?.getD 0))) :
    IterD Tryd.prog 39 #[.pointer (some ⟨B, 0, none⟩)] (fivesOf zs m) (fun k => k = B ∨ k = b) 3 w0 := by
  intro l J Jx W hl hK hJ hJx hY h0
  have hlen : (fivesOf zs m).length = m := by simp [fivesOf]
  rw [hlen]
  refine cut1_in l B b off cap m n zs p hp J Jx W hn hnm hcap hcap2 (hK.cell (.inl (.inl rfl)) h1) (fun j hj => hK.cell (.inl (.inr rfl)) (h2 j hj)) hl hJ hJx (fun k hk W1 hj hs => ?_) h0
  have := hY k (by omega) W1 hj hs
  simpa [fivesOf] using this
end Go.Proofs.YtooicigocljomaaDoor.Line
