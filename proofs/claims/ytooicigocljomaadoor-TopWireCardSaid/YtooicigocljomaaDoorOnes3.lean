/- Contracts of the iterators of package ones that range over others. No statement is proved here. -/
import Derived.Test.YtooicigocljomaaDoorOnes2
import Derived.Deep.RegionWith
import Derived.Deep.Light
namespace Go.Proofs.YtooicigocljomaaDoor.Ones
open Go.RowKit Go.Shelf Go.Proofs.YtooicigocljomaaDoor.Kit Go.Proofs.YtooicigocljomaaDoor.It
set_option linter.unusedVariables false
attribute [local go_sem] Oper.semAt_some

def pairAt (zs : List Int) (k : Nat) : Array Value := #[.int .i64 (zs[2 * k]?.getD 0), .int .i64 (zs[2 * k + 1]?.getD 0)]
def pairsOf (zs : List Int) : List (Array Value) := (List.range ((zs.length + 1) / 2)).map (pairAt zs)

/-- Behind the region that calls yield: only its answer matters. -/
def After (A A' : World → Prop) (K : World → Prop) : Exit → Act → World → Prop := fun e a' w' =>
  e = .normal ∧ ∃ (v0 v1 v2 v3 v4 v5 v6 v7 v8 v9 v10 v11 v12 v13 v14 v15 v16 v17 v18 v19 : Value) (bb : Bool), a' = { tmps := #[v0, v1, v2, v3, v4, v5, v6, v7, v8, v9, v10, v11, v12, v13, v14, v15, v16, v17, v18, v19, .bool (!bb)], defers := [] } ∧ Hid ((bb = true ∧ A w') ∨ (bb = false ∧ A' w')) ∧ K w'

set_option maxRecDepth 100000 in
set_option maxHeartbeats 4000000 in
theorem pairs1_in (l B b off cap : Nat) (zs : List Int) (p : Option Addr) (hp : 0 < zs.length → p = some ⟨b, off, none⟩) (J Jx : Nat → World → Prop) (W : World) (hn : zs.length ≤ 600) (hcap : zs.length ≤ cap) (hcap2 : cap ≤ 9223372036854775807)
    (h1 : W.cell? ⟨B, 0, none⟩ = some (.slice p zs.length cap))
    (h2 : ∀ j : Nat, j < zs.length → W.cell? ⟨b, off + j, none⟩ = some (.int .i64 (zs[j]?.getD 0)))
    (hl : l < W.heap.size) (hO : OwnFrom W.heap.size J) (hOx : OwnFrom W.heap.size Jx)
    (hY : ∀ k (hk : k < (zs.length + 1) / 2) W1, J k W1 → W.heap.size ≤ W1.heap.size → YieldAt Fence.wide 0 Tryd.prog l (pairAt zs k) W1 fun e W' =>
      ((e = .returned (.bool true) ∧ J (k + 1) W') ∨ (e = .returned (.bool false) ∧ Jx (k + 1) W')) ∧ Kept (fun k => k = B ∨ k = b) W.heap.size W1 W')
    (h0 : J 0 W) :
    CallsIn Fence.wide 0 Tryd.prog 51 #[.func (.yield l) #[] #[], .pointer (some ⟨B, 0, none⟩)] W fun e W' => (∃ v, e = .returned v) ∧ (J ((zs.length + 1) / 2) W' ∨ ∃ k, Jx k W') := by
  refine callsIn_of_wp_marks Tryd.func51 rfl trivial ?_ rfl
  simp only [Tryd.ntmps51, List.size_toArray, List.length_cons, List.length_nil, Nat.reduceAdd, Nat.reduceSub, Array.replicate_succ, Array.replicate_zero, List.push_toArray, List.append_toArray, List.nil_append, List.cons_append]
  have hB := cell_lt h1
  gi_wp2_with (refine ⟨trivial, rfl, ?_⟩; gi_at_call 40; refine (callsIn_wide.2 (chunk_any _ _ _ _)).mono ?_; rintro e w' ⟨rfl, rfl⟩)
  have hs0 : (((W.alloc (.cells #[.func (.yield l) #[] #[]] 85)).alloc (.cells #[.slice p zs.length cap] 22)).alloc (.cells #[.int .i64 2] 3)).heap.size = W.heap.size + 3 := by simp
  have hK2 : Kept (fun k => k = B ∨ k = b) W.heap.size W (((W.alloc (.cells #[.func (.yield l) #[] #[]] 85)).alloc (.cells #[.slice p zs.length cap] 22)).alloc (.cells #[.int .i64 2] 3)) := ((Kept.alloc _).trans (Kept.alloc _)).trans (Kept.alloc _)
  have hJ2 : J 0 (((W.alloc (.cells #[.func (.yield l) #[] #[]] 85)).alloc (.cells #[.slice p zs.length cap] 22)).alloc (.cells #[.int .i64 2] 3)) := hO.alloc _ (hO.alloc _ (hO.alloc _ h0))
  have c0 : (((W.alloc (.cells #[.func (.yield l) #[] #[]] 85)).alloc (.cells #[.slice p zs.length cap] 22)).alloc (.cells #[.int .i64 2] 3)).cell? ⟨W.heap.size, 0, none⟩ = some (.func (.yield l) #[] #[]) := by go_simp
  have c1 : (((W.alloc (.cells #[.func (.yield l) #[] #[]] 85)).alloc (.cells #[.slice p zs.length cap] 22)).alloc (.cells #[.int .i64 2] 3)).cell? ⟨W.heap.size + 1, 0, none⟩ = some (.slice p zs.length cap) := by go_simp
  have c2 : (((W.alloc (.cells #[.func (.yield l) #[] #[]] 85)).alloc (.cells #[.slice p zs.length cap] 22)).alloc (.cells #[.int .i64 2] 3)).cell? ⟨W.heap.size + 1 + 1, 0, none⟩ = some (.int .i64 2) := by go_simp
  generalize (((W.alloc (.cells #[.func (.yield l) #[] #[]] 85)).alloc (.cells #[.slice p zs.length cap] 22)).alloc (.cells #[.int .i64 2] 3)) = w2 at *
  have hd : ∀ j : Nat, j < zs.length → w2.cell? ⟨b, off + j, none⟩ = some (.int .i64 (zs[j]?.getD 0)) := fun j hj => hK2.cell (.inl (.inr rfl)) (h2 j hj)
  have hsa : w2.heap.size ≤ W.heap.size + 3 := Nat.le_of_eq hs0
  have hsb : W.heap.size + 3 ≤ w2.heap.size := Nat.le_of_eq hs0.symm
  clear hs0
  refine wp_iter (tot := chunks b off zs.length) (gf := 50) (lb := #[.pointer (some ⟨W.heap.size + 1, 0, none⟩), .pointer (some ⟨W.heap.size + 1 + 1, 0, none⟩)]) rfl (enters_of Tryd.func50 (by kernel_rfl) rfl)
    (chunk_iter _ _ b off _ cap p hp w2 hn hcap hcap2 c1 c2) (Kept.refl _ _ _) (fun k hk => by rcases hk with rfl | rfl <;> omega) (fun x hx => by simp [chunks, chunkAt] at hx; obtain ⟨k, _, rfl⟩ := hx; rfl)
    (fun k W' => J k W' ∧ Kept (fun k => k = b ∨ k = W.heap.size) w2.heap.size w2 W')
    (fun c k W' => c = .ret ∧ Jx k W')
    (OwnFrom.and (ownFrom_more hO (by omega)) (ownFrom_kept (Nat.le_refl _)))
    (fun c => OwnFrom.and (ownFrom_pure _ (fun _ => c = .ret)) (ownFrom_more hOx (by omega)))
    ⟨hJ2, Kept.refl _ _ _⟩
    (fun k => { tmps := #[.func (.yield l) #[] #[], .pointer (some ⟨B, 0, none⟩), .pointer (some ⟨W.heap.size, 0, none⟩), .slice (some ⟨b, off + 2 * k, none⟩) (min 2 (zs.length - 2 * k)) (min 2 (zs.length - 2 * k)), undef, .slice p zs.length cap,
      .func (.func 50) #[] #[.pointer (some ⟨W.heap.size + 1, 0, none⟩), .pointer (some ⟨W.heap.size + 1 + 1, 0, none⟩)], .slice (some ⟨b, off + 2 * k, none⟩) (min 2 (zs.length - 2 * k)) (min 2 (zs.length - 2 * k)), undef, undef, undef, undef, undef, undef, undef, undef, undef, undef, undef, undef, undef], defers := [] }) ?assign ?body ?done ?stop
  case assign =>
    intro l' k hk W' K hKK
    simp only [chunks, List.getElem_map, List.getElem_range, chunkAt]
    gi_wp2
    exact hKK
  case body =>
    rintro l' k hk W' hl1 hl2 ⟨hJk, hKp⟩
    have hk' : k < (zs.length + 1) / 2 := by simpa [chunks] using hk
    obtain rfl := hp (by omega)
    have d0 := hKp.cell (.inl (.inl rfl)) (hd (2 * k) (by omega))
    have y0 := hKp.cell (.inl (.inr rfl)) c0
    have hsW : W.heap.size ≤ W'.heap.size := by have := hKp.size; omega
    obtain ⟨fn, tmps, asg, body, hy, hR⟩ := hY k hk' W'.drew (ownFrom_drew hO hJk) hsW
    have hKd : Kept (fun k => k = B ∨ k = b) W.heap.size W' W'.drew := Kept.drew
    have fin : ∀ W3, Kept (fun k => k = B ∨ k = b) W.heap.size W'.drew W3 → Kept (fun k => k = W.heap.size + 1 ∨ k = W.heap.size + 1 + 1) w2.heap.size W' W3 ∧ Kept (fun k => k = b ∨ k = W.heap.size) w2.heap.size w2 W3 := fun W3 h3 =>
      ⟨(hKd.trans h3).mono (fun j hj hq => .inr (by rcases hq with rfl | rfl <;> omega)) (by omega),
       hKp.trans ((hKd.trans h3).mono (fun j hj hq => by rcases hq with rfl | rfl; exact .inl (.inr rfl); exact .inr (Nat.le_refl _)) (by omega))⟩
    by_cases hl2 : 2 * k + 2 ≤ zs.length
    · have d1 := hKp.cell (.inl (.inl rfl)) (hd (2 * k + 1) (by omega))
      rw [← Nat.add_assoc] at d1
      have hm : min 2 (zs.length - 2 * k) = 2 := by omega
      rw [hm]
      unfold pairAt at hy
      generalize zs[2 * k]?.getD 0 = x at hy d0
      generalize zs[2 * k + 1]?.getD 0 = y at hy d1
      clear hm
      gi_wp2
      refine wpIn_mono (Q := After (J (k + 1)) (Jx (k + 1)) (Kept (fun k => k = B ∨ k = b) W.heap.size W'.drew)) ?_ ?_
      · clear fin hd hY h2 hKd hKp hJk hO hOx h0 hJ2 hK2 c0 c2
        go_light
        gi_region_with (refine ⟨rfl, hR.mono ?_⟩; intro e W3 he3; obtain ⟨bb, rfl, hq3, hk3⟩ := yld_norm he3; clear he3)
        all_goals exact ⟨rfl, _, _, _, _, _, _, _, _, _, _, _, _, _, _, _, _, _, _, _, _, bb, rfl, hq3, hk3⟩
      · rintro e a3 W3 ⟨rfl, v0, v1, v2, v3, v4, v5, v6, v7, v8, v9, v10, v11, v12, v13, v14, v15, v16, v17, v18, v19, bb, rfl, hq3, hk3⟩
        clear hR hy d0 hd hY
        rcases hq3.out with ⟨rfl, hJ3⟩ | ⟨rfl, hJ3⟩
        · gi_wp2
          exact ⟨(fin _ hk3).1, hJ3, (fin _ hk3).2⟩
        · gi_wp2
          exact ⟨(fin _ hk3).1, rfl, hJ3⟩
    · have hm : min 2 (zs.length - 2 * k) = 1 := by omega
      have hz : zs[2 * k + 1]?.getD 0 = 0 := by rw [List.getElem?_eq_none (by omega)]; rfl
      rw [hm]
      unfold pairAt at hy
      rw [hz] at hy
      generalize zs[2 * k]?.getD 0 = x at hy d0
      clear hm hz
      gi_wp2
      refine wpIn_mono (Q := After (J (k + 1)) (Jx (k + 1)) (Kept (fun k => k = B ∨ k = b) W.heap.size W'.drew)) ?_ ?_
      · clear fin hd hY h2 hKd hKp hJk hO hOx h0 hJ2 hK2 c0 c2
        go_light
        gi_region_with (refine ⟨rfl, hR.mono ?_⟩; intro e W3 he3; obtain ⟨bb, rfl, hq3, hk3⟩ := yld_norm he3; clear he3)
        all_goals exact ⟨rfl, _, _, _, _, _, _, _, _, _, _, _, _, _, _, _, _, _, _, _, _, bb, rfl, hq3, hk3⟩
      · rintro e a3 W3 ⟨rfl, v0, v1, v2, v3, v4, v5, v6, v7, v8, v9, v10, v11, v12, v13, v14, v15, v16, v17, v18, v19, bb, rfl, hq3, hk3⟩
        clear hR hy d0 hd hY
        rcases hq3.out with ⟨rfl, hJ3⟩ | ⟨rfl, hJ3⟩
        · gi_wp2
          exact ⟨(fin _ hk3).1, hJ3, (fin _ hk3).2⟩
        · gi_wp2
          exact ⟨(fin _ hk3).1, rfl, hJ3⟩
  case done =>
    rintro D W' hD ⟨hJk, hKp⟩ hKD
    have hlen : (chunks b off zs.length).length = (zs.length + 1) / 2 := by simp [chunks]
    rw [hlen] at hJk
    gi_wp2
    refine ⟨by simp, .inl ⟨_, _, rfl, run_takeDeferred hKD, ?_⟩⟩
    exact ⟨_, results_none rfl _ _ _, ⟨_, rfl⟩, .inl (hO.putObj _ hJk (by omega) hKD rfl)⟩
  case stop =>
    rintro D c k W' hD ⟨rfl, hJk⟩ hKD
    gi_wp2
    refine ⟨by simp, .inl ⟨_, _, rfl, run_takeDeferred hKD, ?_⟩⟩
    exact ⟨_, results_none rfl _ _ _, ⟨_, rfl⟩, .inr ⟨k, hOx.putObj _ hJk (by omega) hKD rfl⟩⟩

theorem pairs_iter (B b off cap : Nat) (zs : List Int) (p : Option Addr) (hp : 0 < zs.length → p = some ⟨b, off, none⟩) (w0 : World) (hn : zs.length ≤ 600) (hcap : zs.length ≤ cap) (hcap2 : cap ≤ 9223372036854775807)
    (h1 : w0.cell? ⟨B, 0, none⟩ = some (.slice p zs.length cap)) (h2 : ∀ j : Nat, j < zs.length → w0.cell? ⟨b, off + j, none⟩ = some (.int .i64 (zs[j]?.getD 0))) :
    Iter Tryd.prog 51 #[.pointer (some ⟨B, 0, none⟩)] (pairsOf zs) (fun k => k = B ∨ k = b) w0 := by
  intro l J Jx W hl hK hJ hJx hY h0
  have hlen : (pairsOf zs).length = (zs.length + 1) / 2 := by simp [pairsOf]
  rw [hlen]
  refine pairs1_in l B b off cap zs p hp J Jx W hn hcap hcap2 (hK.cell (.inl (.inl rfl)) h1) (fun j hj => hK.cell (.inl (.inr rfl)) (h2 j hj)) hl hJ hJx (fun k hk W1 hj hs => ?_) h0
  have := hY k (by omega) W1 hj hs
  simpa [pairsOf] using this
end Go.Proofs.YtooicigocljomaaDoor.Ones
