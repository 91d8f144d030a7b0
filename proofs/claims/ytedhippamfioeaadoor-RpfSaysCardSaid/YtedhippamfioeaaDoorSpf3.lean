/- Package spf: shortest. No statement is proved here. -/
import Derived.Test.YtedhippamfioeaaDoorSpf2
import Derived.Deep.LoopGhost
import Derived.Deep.Cut
namespace Go.Proofs.YtedhippamfioeaaDoor.Spf
open Go.ChangeShapes Go.WideShapes Go.ChangeAt Go.RowKit Go.Proofs.YtedhippamfioeaaDoor.Kit Go.Proofs.YtedhippamfioeaaDoor.App Go.Proofs.YtedhippamfioeaaDoor.Err Go.Proofs.YtedhippamfioeaaDoor.Vector
set_option linter.unusedVariables false
set_option maxRecDepth 20000
set_option maxHeartbeats 1000000

/-- The costs of all links as cells. -/
def net (c : Nat → Nat → Int) : List Value := ar 64 fun k => .int .i64 (c (k / 8) (k % 8))
theorem net_get (c : Nat → Nat → Int) {i j : Nat} (hi : i < 8) (hj : j < 8) : (net c)[i * 8 + j]? = some (.int .i64 (c i j)) := by
  unfold net
  rw [ar_get _ (by omega), show (i * 8 + j) / 8 = i by omega, show (i * 8 + j) % 8 = j by omega]
theorem bools_set (S : Nat → Bool) (u : Nat) : (bools8 S).set u (.bool true) = bools8 fun j => if j = u then true else S j := by
  unfold bools8
  rw [ar_set]
  refine ar_congr fun k _ => ?_
  show (if k = u then Value.bool true else Value.bool (S k)) = Value.bool (if k = u then true else S k)
  by_cases h : k = u
  · rw [if_pos h, if_pos h]
  · rw [if_neg h, if_neg h]
theorem pth_src (K : Nat → Int) {j : Nat} (hj : j < 8) (d : Int) : (pth K).set j (.int .i64 d) = pth fun k => if k = j then 16 * d + K j % 16 else K k := by
  unfold pth
  rw [ar_set]
  refine ar_congr fun k hk => ?_
  unfold pv
  show _ = Value.int .i64 (if k < 8 then (if k = j then 16 * d + K j % 16 else K k) / 16 else (if k - 8 = j then 16 * d + K j % 16 else K (k - 8)) % 16 - 1)
  by_cases h2 : k = j
  · rw [if_pos h2, if_pos (by omega), if_pos h2]
    congr 1; omega
  · rw [if_neg h2]
    by_cases h3 : k < 8
    · rw [if_pos h3, if_pos h3, if_neg h2]
    · rw [if_neg h3, if_neg h3]
      by_cases h4 : k - 8 = j
      · rw [if_pos h4, h4]; congr 1; omega
      · rw [if_neg h4]
/-- How many are not done. -/
def undone (S : Nat → Bool) : Nat := (S 0).toNat + (S 1).toNat + (S 2).toNat + (S 3).toNat + (S 4).toNat + (S 5).toNat + (S 6).toNat + (S 7).toNat
theorem undone_le (S : Nat → Bool) : undone S ≤ 8 := by
  have h : ∀ b : Bool, b.toNat ≤ 1 := fun b => by cases b <;> decide
  unfold undone
  have := h (S 0); have := h (S 1); have := h (S 2); have := h (S 3); have := h (S 4); have := h (S 5); have := h (S 6); have := h (S 7)
  omega
theorem undone_step (S : Nat → Bool) {u : Nat} (hu : u < 8) (h : S u = false) : undone (fun j => if j = u then true else S j) = undone S + 1 := by
  unfold undone
  rcases u with _|_|_|_|_|_|_|_|u
  · simp [h]; omega
  · simp [h]; omega
  · simp [h]; omega
  · simp [h]; omega
  · simp [h]; omega
  · simp [h]; omega
  · simp [h]; omega
  · simp [h]
  · omega

theorem cells_grown (g : Nat) : ∀ (vs : List Value) (w : World) (k : Nat), w.grownBy (w.setCells g k vs) (some g)
  | [], w, k => grefl w _
  | v :: r, w, k => by
    rw [World.setCells]
    have h := cells_grown g r (w.setCell ⟨g, k, .none⟩ v) (k + 1)
    have h0 := set_grown w g k v
    exact ⟨h.os.trans h0.os, h.tape.trans h0.tape, h.output.trans h0.output, Nat.le_trans h0.size h.size, fun j hj hne => (h.block j (Nat.lt_of_lt_of_le hj h0.size) hne).trans (h0.block j hj hne)⟩
theorem blk_cells_at {T : TypeId} {g : Nat} : ∀ (vs : List Value) (w : World) (l : List Value) (k : Nat), Blk T w g l → l.length = k + vs.length → Blk T (w.setCells g k vs) g (l.take k ++ vs)
  | [], w, l, k, h, hl => by
    rw [World.setCells, List.append_nil, List.take_of_length_le (by simp at hl; omega)]
    exact h
  | v :: r, w, l, k, h, hl => by
    rw [World.setCells]
    simp only [List.length_cons] at hl
    have h1 := blk_cells_at r (w.setCell ⟨g, k, .none⟩ v) (l.set k v) (k + 1) (h.set k v) (by rw [List.length_set]; omega)
    rwa [List.take_add_one, List.getElem?_set_self (by omega), List.take_set, List.set_eq_of_length_le (by rw [List.length_take]; omega), List.append_assoc] at h1
theorem blk_cells {T : TypeId} {g : Nat} {w : World} {l : List Value} (h : Blk T w g l) (vs : List Value) (hl : l.length = vs.length) : Blk T (w.setCells g 0 vs) g vs := by
  have := blk_cells_at vs w l 0 h (by omega)
  rwa [List.take_zero, List.nil_append] at this
/-- What shortest has in memory. -/
structure St (w wr : World) (z : Nat) (c : Nat → Nat → Int) (S : Nat → Bool) (K : Nat → Int) : Prop where
  bel : Below z w wr
  net : Blk 74 wr z (Spf.net c)
  res : Blk 71 wr (z + 1) (pth fun _ => 1)
  pat : Pth wr (z + 2) K
  don : Blk 44 wr (z + 3) (bools8 S)
variable {w wr w' : World} {z : Nat} {c : Nat → Nat → Int} {S : Nat → Bool} {K : Nat → Int}
theorem St.done (h : St w wr z c S K) (u : Nat) : St w (wr.setCell ⟨z + 3, u, none⟩ (.bool true)) z c (fun j => if j = u then true else S j) K :=
  ⟨below_set h.bel (z + 3) u _ (by omega), h.net.other _ _ _ (by omega), h.res.other _ _ _ (by omega), Blk.other h.pat _ _ _ (by omega), by
    have := h.don.set u (.bool true)
    rwa [bools_set] at this⟩
theorem St.path {K' : Nat → Int} (h : St w wr z c S K) (hz : z ≤ w.heap.size) (hg : wr.grownBy w' (some (z + 2))) (hp : Pth w' (z + 2) K') : St w w' z c S K' :=
  ⟨gbelow h.bel hz hg (by omega), h.net.more hg (by simp), h.res.more hg (by simp), hp, h.don.more hg (by simp)⟩
theorem St.call (h : St w wr z c S K) (hb : Below wr.heap.size wr w') : St w w' z c S K :=
  ⟨h.bel.trans (hb.mono (Nat.le_of_lt h.net.lt)), h.net.below hb, h.res.below hb, Blk.below h.pat hb, h.don.below hb⟩
/-- The first cells. -/
structure Pre (w wr : World) (z : Nat) (c : Nat → Nat → Int) (K : Nat → Int) : Prop where
  bel : Below z w wr
  net : Blk 74 wr z (Spf.net c)
  res : Blk 71 wr (z + 1) (pth fun _ => 1)
  pat : Pth wr (z + 2) K
  size : wr.heap.size = z + 3
theorem Pre.set {K' : Nat → Int} (h : Pre w wr z c K) (hg : wr.grownBy w' (some (z + 2))) (hz : z ≤ w.heap.size) (hp : Pth w' (z + 2) K') (hs : w'.heap.size = wr.heap.size) : Pre w w' z c K' :=
  ⟨gbelow h.bel hz hg (by omega), h.net.more hg (by simp), h.res.more hg (by simp), hp, by rw [hs]; exact h.size⟩
theorem Pre.st (h : Pre w wr z c K) : St w (wr.alloc (.cells (bools8 fun _ => false).toArray 44)) z c (fun _ => false) K :=
  ⟨h.bel.trans ((balloc (brefl wr) _).mono (Nat.le_of_lt h.net.lt)), h.net.alloc _, h.res.alloc _, Blk.alloc h.pat _, by
    have := Blk.new wr 44 (bools8 fun _ => false)
    rwa [h.size] at this⟩
theorem Pre.first (w : World) (c : Nat → Nat → Int) (z : Nat) (hz : w.heap.size = z) : Pre w (((w.alloc (.cells (Spf.net c).toArray 74)).alloc (.cells (pth fun _ => 1).toArray 71)).alloc (.cells (pth fun _ => 1).toArray 71)) z c fun _ => 1 := by
  subst hz
  refine ⟨balloc (balloc (balloc (brefl w) _) _) _, (Blk.new w _ _).alloc _ |>.alloc _, ?_, ?_, by simp⟩
  · have h := Blk.new (w.alloc (.cells (Spf.net c).toArray 74)) 71 (pth fun _ => 1)
    rw [show (w.alloc (.cells (Spf.net c).toArray 74)).heap.size = w.heap.size + 1 by simp] at h
    exact h.alloc _
  · have h := Blk.new ((w.alloc (.cells (Spf.net c).toArray 74)).alloc (.cells (pth fun _ => 1).toArray 71)) 71 (pth fun _ => 1)
    rwa [show ((w.alloc (.cells (Spf.net c).toArray 74)).alloc (.cells (pth fun _ => 1).toArray 71)).heap.size = w.heap.size + 2 by simp] at h
theorem zc_b {n : Nat} {ls : List Lk} (g : Vector.Good n ls) (i j : Nat) : 0 ≤ zc (co ls i j) ∧ zc (co ls i j) ≤ 1000 := by
  have := co_b g i j
  unfold zc
  split <;> omega
theorem pth_lit : (pth fun _ => 1).toArray = #[.int .i64 0, .int .i64 0, .int .i64 0, .int .i64 0, .int .i64 0, .int .i64 0, .int .i64 0, .int .i64 0, .int .i64 0, .int .i64 0, .int .i64 0, .int .i64 0, .int .i64 0, .int .i64 0, .int .i64 0, .int .i64 0] := rfl
theorem none_lit : (bools8 fun _ => false).toArray = #[.bool false, .bool false, .bool false, .bool false, .bool false, .bool false, .bool false, .bool false] := rfl
theorem size16 (K : Nat → Int) : (Tryd.prog.info? 71).map (·.size) = some (pth K).length := by
  unfold pth; rw [ar_len]; kernel_rfl
theorem one_cell (K : Nat → Int) : (pth K).toArray.all (·.oneCell') = true := all_oneCell_toArray fun v hv => by
  unfold pth ar at hv
  obtain ⟨k, _, rfl⟩ := List.mem_map.1 hv
  rfl

theorem shortest_any (n s : Nat) (ls : List Lk) (w : World) (c : Nat → Nat → Int) (g : Vector.Good n ls) (hs : s < n) (hc : ∀ i j, c i j = zc (co ls i j)) :
    Calls Tryd.prog 30 #[.agg (net c).toArray, .int .i64 (s : Int)] w fun e w' => e = .returned (.agg (pth (Kf ls s)).toArray) ∧ Below w.heap.size w w' := by
  have hs8 : s < 8 := by have := g.up; omega
  have hs8' : (s : Int) < 8 := by omega
  obtain ⟨z, hz⟩ : ∃ z, w.heap.size = z := ⟨_, rfl⟩
  have HZ := Lib.hid hz
  have HP := Lib.hid (Pre.first w c z hz)
  have HG := Lib.hid g
  have HS := Lib.hid hs
  have HC := Lib.hid hc
  rw [hz]
  rw [pth_lit] at HP
  clear g hc hs
  generalize hN : (net c).toArray = N at HP
  clear hN
  go_enter Tryd.func30, Tryd.ntmps30
  go_wp2_with fail
  generalize ((w.alloc (.cells N 74)).alloc _).alloc _ = w1 at HP ⊢
  clear hz
  go_loopw [9] (fun iv wr => ∃ i : Nat, i ≤ 8 ∧ iv = .int .i64 i ∧ Hid (Pre w wr z c (fun k => if k < i then 16000 else 1))) (fun i _ => 8 - (intOf i).toNat)
  case atStart => exact ⟨0, Nat.zero_le _, rfl, HP⟩
  case round =>
    obtain ⟨i, hi, rfl, HQ⟩ := hrel
    clear HP
    by_cases hlt : i < 8
    · have t0 : decide ((i : Int) < 8) = true := decide_eq_true (by omega)
      have hlt' : (i : Int) < 8 := by omega
      have c0 := Blk.cell HQ.out.pat i _ (pth_far _ hlt)
      have c1 := Blk.cell HQ.out.pat (8 + i) _ (pth_hop _ hlt)
      have f0 := Blk.fz HQ.out.pat i
      have f1 := Blk.fz HQ.out.pat (8 + i)
      have HQ2 := Lib.hid (show Pre w ((wr.setCell ⟨z + 2, i, none⟩ (.int .i64 1000)).setCell ⟨z + 2, 8 + i, none⟩ (.int .i64 (-1))) z c (fun k => if k < i + 1 then 16000 else 1) from
        HQ.out.set (grown_set (set_grown wr (z + 2) i _) (8 + i) _) (by rw [HZ.out]; exact Nat.le_refl _) (by
          have h1 := Blk.set (Blk.set HQ.out.pat i (.int .i64 1000)) (8 + i) (.int .i64 (-1))
          rwa [pth_set _ hlt _ _ (by omega), pth_congr (L := fun k => if k < i + 1 then 16000 else 1) (fun k hk => by
            by_cases h : k = i
            · rw [if_pos h, if_pos (by omega)]; rfl
            · rw [if_neg h]
              by_cases h2 : k < i
              · rw [if_pos h2, if_pos (by omega)]
              · rw [if_neg h2, if_neg (by omega)])] at h1) (by simp [World.setCell]))
      go_wp2_with fail
      go_roundw
      case rel => exact ⟨i + 1, by omega, by first | rfl | go_num, HQ2⟩
      case measure => simp [intOf]; omega
    · obtain rfl : i = 8 := by omega
      have t0 : decide (((8 : Nat) : Int) < 8) = false := by decide
      have c0 := Blk.cell HQ.out.pat s _ (pth_far _ hs8)
      have f0 := Blk.fz HQ.out.pat s
      have HQ2 := Lib.hid (show Pre w (wr.setCell ⟨z + 2, s, none⟩ (.int .i64 0)) z c (K0 s) from
        HQ.out.set (set_grown wr (z + 2) s _) (by rw [HZ.out]; exact Nat.le_refl _) (by
          have h1 := Blk.set HQ.out.pat s (.int .i64 0)
          rwa [pth_src _ hs8, pth_congr (L := K0 s) (fun k hk => by
            unfold K0
            by_cases h : k = s
            · rw [if_pos h, if_pos h, if_pos hs8]; rfl
            · rw [if_neg h, if_neg h, if_pos hk])] at h1) (by simp [World.setCell]))
      have hsz := HQ.out.size
      go_wp2_with fail
      clear c0 f0 hsz
      generalize wr.setCell _ _ = w2 at HQ2 ⊢
      have HST := Lib.hid HQ2.out.st
      rw [none_lit] at HST
      clear HQ HQ2
      generalize w2.alloc _ = w3 at HST ⊢
      go_loopg [8] 8 (fun gk nv wr => ∃ (b l : Int) (S : Nat → Bool) (K : Nat → Int), nv = .int .i64 b ∧ gk + undone S = 8 ∧ Hid (St w wr z c S K) ∧ Hid (Inv ls s S K) ∧ Hid (Nr (fun k => K k / 16) S 8 b l) ∧ Hid (S s = true ∨ b = s))
      case atStart =>
        refine ⟨s, 0, fun _ => false, K0 s, rfl, rfl, HST, Lib.hid (inv_start HG.out s), Lib.hid (.inr ⟨s, hs8, rfl, rfl, ?_, ?_, fun k _ _ => ?_⟩), Lib.hid (.inr rfl)⟩
        · show 0 = K0 s s / 16
          unfold K0; rw [if_pos rfl]; rfl
        · show K0 s s / 16 < 1000
          unfold K0; rw [if_pos rfl]; decide
        · show K0 s s / 16 ≤ K0 s k / 16
          unfold K0; rw [if_pos rfl]; split <;> decide
      case round =>
        obtain ⟨b, l, S, K, rfl, hgk, HST, HIV, HNR, HSS⟩ := hrel
        by_cases hb : b = -1
        · subst hb
          have HE := Lib.hid (show ∀ k, k < 8 → S k = false → 1000 ≤ K k / 16 from by
            rcases HNR.out with ⟨_, _, h⟩ | ⟨u, _, h, _⟩
            · exact h
            · omega)
          have HSS2 := Lib.hid (show S s = true from by
            rcases HSS.out with h | h
            · exact h
            · omega)
          have HK := Lib.hid (inv_end HG.out HS.out HIV.out HSS2.out HE.out)
          clear HNR HIV HSS
          go_upto_region 14 with (fail)
          have hpat : Pth wr (z + 2) (Kf ls s) := by
            have h := HST.out.pat
            unfold Pth at h ⊢
            rwa [pth_congr (L := Kf ls s) (fun k _ => HK.out k)] at h
          have hres := HST.out.res
          refine wp_region_lit ?_
          refine wpList_load_mid rfl 71 _ rfl (z + 2) 0 rfl (pth (Kf ls s)) _ (fun j v hv => by rw [Nat.zero_add]; exact hpat.cell j v hv) Tryd.underlying71 rfl (size16 _) ?_
          refine wpList_store_mid rfl 71 _ _ rfl (z + 1) 0 (pth (Kf ls s)).toArray rfl rfl (fun j hj => ⟨?_, by rw [Nat.zero_add]; exact hres.fz j⟩) (by rw [List.size_toArray]; exact size16 _) (one_cell _) ?_
          · rw [List.size_toArray] at hj
            unfold pth at hj
            rw [ar_len] at hj
            rw [Nat.zero_add, hres.cell j _ (ar_get _ hj)]
            rfl
          have HR9 := Lib.hid (blk_cells hres (pth (Kf ls s)) (by unfold pth; rw [ar_len, ar_len]))
          have HB9 := Lib.hid (show Below z w (wr.setCells (z + 1) 0 (pth (Kf ls s))) from gbelow HST.out.bel (by rw [HZ.out]; exact Nat.le_refl _) (cells_grown (z + 1) (pth (Kf ls s)) wr 0) (by omega))
          rw [show (pth (Kf ls s)).toArray.toList = pth (Kf ls s) from rfl]
          generalize wr.setCells (z + 1) 0 (pth (Kf ls s)) = w9 at HR9 HB9 ⊢
          clear hpat hres
          have HV := Lib.hid (size16 (Kf ls s))
          obtain ⟨V, hV⟩ : ∃ V, pth (Kf ls s) = V := ⟨_, rfl⟩
          rw [hV] at HR9 HV ⊢
          have HVE := Lib.hid hV
          clear hV
          go_wp2_with fail
          exact bodyPost_ret (results_cell_row rfl _ _ (z + 1) 71 V.toArray (0, 0) _ rfl HR9.out Tryd.underlying71 rfl HV.out) rfl ⟨by rw [HVE.out], HB9.out⟩
        · obtain ⟨u, hu, rfl, hSu, _, hfu, hmin⟩ : ∃ u : Nat, u < 8 ∧ b = (u : Int) ∧ S u = false ∧ l = K u / 16 ∧ K u / 16 < 1000 ∧ ∀ k, k < 8 → S k = false → K u / 16 ≤ K k / 16 := by
            rcases HNR.out with ⟨h, _⟩ | h
            · exact absurd h hb
            · exact h
          have HST3 := Lib.hid (HST.out.done u)
          have dc := HST.out.don.cell u _ (ar_get _ hu)
          have df := HST.out.don.fz u
          have hu' : (u : Int) < 8 := by omega
          have HIS := Lib.hid (inv_step HG.out HS.out HIV.out hSu hfu hmin (by rcases HSS.out with h | h; exact .inl h; exact .inr (by omega)))
          have HS5 := Lib.hid (show (if s = u then true else S s) = true from by
            rcases HSS.out with h | h
            · rw [h]; split <;> rfl
            · rw [if_pos (by omega)])
          have HKB := Lib.hid (fun j => (show 0 ≤ K j ∧ K j ≤ 16000 from ⟨Int.le_trans (Kf_b HG.out s j).1 (HIV.out.low j), HIV.out.top j⟩))
          have HUD := Lib.hid (undone_step S hu hSu)
          have HUL := Lib.hid (undone_le (fun j => if j = u then true else S j))
          have HGK := Lib.hid hgk
          clear hSu hfu hmin HNR HSS HIV hb hgk
          go_upto_region 13 with (fail)
          clear dc df
          generalize wr.setCell _ _ = w4 at HST3 ⊢
          have n0 : w4.cell? ⟨z, u * 8, none⟩ = some (.int .i64 (c u 0)) := HST3.out.net.cell (u * 8 + 0) _ (net_get c hu (by decide))
          have n1 : w4.cell? ⟨z, u * 8 + 1, none⟩ = some (.int .i64 (c u 1)) := HST3.out.net.cell (u * 8 + 1) _ (net_get c hu (by decide))
          have n2 : w4.cell? ⟨z, u * 8 + 2, none⟩ = some (.int .i64 (c u 2)) := HST3.out.net.cell (u * 8 + 2) _ (net_get c hu (by decide))
          have n3 : w4.cell? ⟨z, u * 8 + 3, none⟩ = some (.int .i64 (c u 3)) := HST3.out.net.cell (u * 8 + 3) _ (net_get c hu (by decide))
          have n4 : w4.cell? ⟨z, u * 8 + 4, none⟩ = some (.int .i64 (c u 4)) := HST3.out.net.cell (u * 8 + 4) _ (net_get c hu (by decide))
          have n5 : w4.cell? ⟨z, u * 8 + 5, none⟩ = some (.int .i64 (c u 5)) := HST3.out.net.cell (u * 8 + 5) _ (net_get c hu (by decide))
          have n6 : w4.cell? ⟨z, u * 8 + 6, none⟩ = some (.int .i64 (c u 6)) := HST3.out.net.cell (u * 8 + 6) _ (net_get c hu (by decide))
          have n7 : w4.cell? ⟨z, u * 8 + 7, none⟩ = some (.int .i64 (c u 7)) := HST3.out.net.cell (u * 8 + 7) _ (net_get c hu (by decide))
          have EX := Lib.hid (extend_any (z + 2) u K (c u) w4 HST3.out.pat hu HKB.out (fun j => by rw [HC.out]; exact zc_b HG.out u j) (by rw [HC.out, co_self HG.out]; rfl))
          rw [ints8_lit] at EX
          go_wp2_with fail
          refine EX.out.mono ?_; rintro e w5 ⟨rfl, hp5, hg5⟩
          have HST5 := Lib.hid (HST3.out.path (by rw [HZ.out]; exact Nat.le_refl _) hg5 hp5)
          rw [show rlx K u (c u) = rlx K u (fun j => zc (co ls u j)) from congrArg (rlx K u) (funext fun j => HC.out u j)] at HST5
          clear n0 n1 n2 n3 n4 n5 n6 n7 EX HST3 hp5 hg5 HKB
          have HS5' := Lib.hid (show (fun j => if j = u then true else S j) s = true from HS5.out)
          generalize rlx K u (fun j => zc (co ls u j)) = K5 at HIS HST5
          generalize (fun j => if j = u then true else S j) = S5 at HIS HST5 HUD HUL HS5'
          have k0 : w5.cell? ⟨z + 2, 0, none⟩ = some (.int .i64 (K5 0 / 16)) := Blk.cell HST5.out.pat 0 _ (pth_far _ (by decide))
          have k1 : w5.cell? ⟨z + 2, 1, none⟩ = some (.int .i64 (K5 1 / 16)) := Blk.cell HST5.out.pat 1 _ (pth_far _ (by decide))
          have k2 : w5.cell? ⟨z + 2, 2, none⟩ = some (.int .i64 (K5 2 / 16)) := Blk.cell HST5.out.pat 2 _ (pth_far _ (by decide))
          have k3 : w5.cell? ⟨z + 2, 3, none⟩ = some (.int .i64 (K5 3 / 16)) := Blk.cell HST5.out.pat 3 _ (pth_far _ (by decide))
          have k4 : w5.cell? ⟨z + 2, 4, none⟩ = some (.int .i64 (K5 4 / 16)) := Blk.cell HST5.out.pat 4 _ (pth_far _ (by decide))
          have k5 : w5.cell? ⟨z + 2, 5, none⟩ = some (.int .i64 (K5 5 / 16)) := Blk.cell HST5.out.pat 5 _ (pth_far _ (by decide))
          have k6 : w5.cell? ⟨z + 2, 6, none⟩ = some (.int .i64 (K5 6 / 16)) := Blk.cell HST5.out.pat 6 _ (pth_far _ (by decide))
          have k7 : w5.cell? ⟨z + 2, 7, none⟩ = some (.int .i64 (K5 7 / 16)) := Blk.cell HST5.out.pat 7 _ (pth_far _ (by decide))
          have d0 : w5.cell? ⟨z + 3, 0, none⟩ = some (.bool (S5 0)) := HST5.out.don.cell 0 _ rfl
          have d1 : w5.cell? ⟨z + 3, 1, none⟩ = some (.bool (S5 1)) := HST5.out.don.cell 1 _ rfl
          have d2 : w5.cell? ⟨z + 3, 2, none⟩ = some (.bool (S5 2)) := HST5.out.don.cell 2 _ rfl
          have d3 : w5.cell? ⟨z + 3, 3, none⟩ = some (.bool (S5 3)) := HST5.out.don.cell 3 _ rfl
          have d4 : w5.cell? ⟨z + 3, 4, none⟩ = some (.bool (S5 4)) := HST5.out.don.cell 4 _ rfl
          have d5 : w5.cell? ⟨z + 3, 5, none⟩ = some (.bool (S5 5)) := HST5.out.don.cell 5 _ rfl
          have d6 : w5.cell? ⟨z + 3, 6, none⟩ = some (.bool (S5 6)) := HST5.out.don.cell 6 _ rfl
          have d7 : w5.cell? ⟨z + 3, 7, none⟩ = some (.bool (S5 7)) := HST5.out.don.cell 7 _ rfl
          have NX := Lib.hid (nearest_any (fun k => K5 k / 16) S5 w5 w5.heap.size rfl)
          rw [ints8_lit, bools8_lit] at NX
          go_wp2_with fail
          refine NX.out.mono ?_; rintro e w6 ⟨b6, l6, rfl, hn6, hb6⟩
          have HST6 := Lib.hid (HST5.out.call hb6)
          have HN6 := Lib.hid hn6
          clear k0 k1 k2 k3 k4 k5 k6 k7 d0 d1 d2 d3 d4 d5 d6 d7 NX HST5 hn6 hb6
          go_wp2_with fail
          go_roundg (gk - 1)
          case measure => have := HGK.out; have := HUD.out; have := HUL.out; omega
          case rel => exact ⟨b6, l6, S5, K5, rfl, by have := HGK.out; have := HUD.out; have := HUL.out; omega, HST6, HIS, HN6, Lib.hid (.inl HS5'.out)⟩
end Go.Proofs.YtedhippamfioeaaDoor.Spf
