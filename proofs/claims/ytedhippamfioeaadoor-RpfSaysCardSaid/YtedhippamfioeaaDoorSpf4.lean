/- Package spf: cheapest. No statement is proved here. -/
import Derived.Test.YtedhippamfioeaaDoorSpf3
import Derived.Test.YtedhippamfioeaaDoorLink
namespace Go.Proofs.YtedhippamfioeaaDoor.Spf
open Go.ChangeShapes Go.WideShapes Go.ChangeAt Go.RowKit Go.Proofs.YtedhippamfioeaaDoor.Kit Go.Proofs.YtedhippamfioeaaDoor.App Go.Proofs.YtedhippamfioeaaDoor.Cells Go.Proofs.YtedhippamfioeaaDoor.Err Go.Proofs.YtedhippamfioeaaDoor.Vector
set_option linter.unusedVariables false
set_option maxRecDepth 20000
set_option maxHeartbeats 1000000

theorem cst_sym (ls : List Lk) (i j : Nat) : ∀ k, cst ls (i : Int) (j : Int) k = cst ls (j : Int) (i : Int) k
  | 0 => rfl
  | k + 1 => by
    have hf : fit (lk ls k) (i : Int) (j : Int) ↔ fit (lk ls k) (j : Int) (i : Int) := by unfold fit; omega
    show (if _ then _ else _) = (if _ then _ else _)
    rw [cst_sym ls i j k]
    simp only [hf]
/-- The costs behind k links. -/
def Mk (ls : List Lk) (k : Nat) (i j : Nat) : Int := zc (cst ls (i : Int) (j : Int) k)
def both (x y i j : Nat) : Prop := (i = x ∧ j = y) ∨ (i = y ∧ j = x)
instance (x y i j : Nat) : Decidable (both x y i j) := inferInstanceAs (Decidable (_ ∨ _))
variable {n : Nat} {ls : List Lk}
theorem Mk_b (g : Vector.Good n ls) {k : Nat} (hk : k ≤ ls.length) (i j : Nat) : 0 ≤ Mk ls k i j ∧ Mk ls k i j ≤ 20 ∧ (Mk ls k i j = 0 ↔ cst ls (i : Int) (j : Int) k = 1000) := by
  unfold Mk zc
  rcases cst_or g i j k hk with h | h
  · rw [if_pos h]; omega
  · have := Ed.cost g h
    rw [if_neg (by omega)]
    omega
theorem Mk_new (g : Vector.Good n ls) {k x y : Nat} {c : Int} (hk : k < ls.length) (ha : (lk ls k).a = (x : Int)) (hb : (lk ls k).b = (y : Int)) (hc : (lk ls k).c = c) (h : Mk ls k x y = 0 ∨ c < Mk ls k x y) (i j : Nat) :
    Mk ls (k + 1) i j = if both x y i j then c else Mk ls k i j := by
  have hl := g.all _ (lk_mem hk)
  have h1 := Mk_b g (Nat.le_of_lt hk) x y
  have hlt : c < cst ls (x : Int) (y : Int) k := by
    rcases h with h | h
    · rw [h1.2.2.1 h]; omega
    · by_cases e : cst ls (x : Int) (y : Int) k = 1000
      · omega
      · unfold Mk zc at h; rwa [if_neg e] at h
  have hf : fit (lk ls k) (i : Int) (j : Int) ↔ both x y i j := by unfold fit both; rw [ha, hb]; omega
  by_cases hij : both x y i j
  · rw [if_pos hij]
    have he : cst ls (i : Int) (j : Int) k = cst ls (x : Int) (y : Int) k := by
      rcases hij with ⟨rfl, rfl⟩ | ⟨rfl, rfl⟩
      · rfl
      · exact cst_sym ls _ _ k
    unfold Mk
    rw [cst_yes (hf.2 hij) (by rw [he, hc]; exact hlt), hc]
    unfold zc
    rw [if_neg (by omega)]
  · rw [if_neg hij]
    unfold Mk
    rw [cst_no (fun e => hij (hf.1 e.1))]
theorem Mk_old (g : Vector.Good n ls) {k x y : Nat} {c : Int} (hk : k < ls.length) (ha : (lk ls k).a = (x : Int)) (hb : (lk ls k).b = (y : Int)) (hc : (lk ls k).c = c) (h : ¬ (Mk ls k x y = 0 ∨ c < Mk ls k x y)) (i j : Nat) :
    Mk ls (k + 1) i j = Mk ls k i j := by
  have h1 := Mk_b g (Nat.le_of_lt hk) x y
  have hf : fit (lk ls k) (i : Int) (j : Int) ↔ both x y i j := by unfold fit both; rw [ha, hb]; omega
  unfold Mk
  rw [cst_no]
  intro e
  have hij := hf.1 e.1
  have he : cst ls (i : Int) (j : Int) k = cst ls (x : Int) (y : Int) k := by
    rcases hij with ⟨rfl, rfl⟩ | ⟨rfl, rfl⟩
    · rfl
    · exact cst_sym ls _ _ k
  have h2 := e.2
  rw [he, hc] at h2
  refine h ?_
  by_cases e : cst ls (x : Int) (y : Int) k = 1000
  · exact .inl (h1.2.2.2 e)
  · refine .inr ?_
    unfold Mk zc; rwa [if_neg e]
theorem net_congr {c d : Nat → Nat → Int} (h : ∀ i j, i < 8 → j < 8 → c i j = d i j) : net c = net d := ar_congr fun k hk => by rw [h _ _ (by omega) (by omega)]
theorem net_set (c : Nat → Nat → Int) {x y : Nat} (hx : x < 8) (hy : y < 8) (v : Int) : ((net c).set (x * 8 + y) (.int .i64 v)).set (y * 8 + x) (.int .i64 v) = net fun i j => if both x y i j then v else c i j := by
  unfold net
  rw [ar_set, ar_set]
  refine ar_congr fun k hk => ?_
  show _ = Value.int .i64 (if both x y (k / 8) (k % 8) then v else c (k / 8) (k % 8))
  by_cases h1 : k = y * 8 + x
  · rw [if_pos h1, if_pos (by unfold both; omega)]
  · rw [if_neg h1]
    by_cases h2 : k = x * 8 + y
    · rw [if_pos h2, if_pos (by unfold both; omega)]
    · rw [if_neg h2, if_neg (by unfold both; omega)]
/-- The cells while the links are gone through. -/
structure Ch (w wr : World) (z : Nat) (c : Nat → Nat → Int) : Prop where
  bel : Below z w wr
  res : Blk 74 wr z (net fun _ _ => 0)
  net : Blk 74 wr (z + 1) (Spf.net c)
theorem Ch.below {w wr w' : World} {z : Nat} {c : Nat → Nat → Int} (h : Ch w wr z c) (hb : Below wr.heap.size wr w') : Ch w w' z c :=
  ⟨h.bel.trans (hb.mono (Nat.le_of_lt h.res.lt)), h.res.below hb, h.net.below hb⟩
theorem Ch.drewN {w wr : World} {z : Nat} {c : Nat → Nat → Int} (h : Ch w wr z c) (m : Nat) : Ch w (wr.drewN m) z c := ⟨bdrewN h.bel m, h.res, h.net⟩
theorem Ch.set {w wr : World} {z : Nat} {c d : Nat → Nat → Int} (h : Ch w wr z c) {x y : Nat} (hx : x < 8) (hy : y < 8) (v : Int) (hd : ∀ i j, d i j = if both x y i j then v else c i j) :
    Ch w ((wr.setCell ⟨z + 1, x * 8 + y, none⟩ (.int .i64 v)).setCell ⟨z + 1, y * 8 + x, none⟩ (.int .i64 v)) z d :=
  ⟨below_set (below_set h.bel _ _ _ (by omega)) _ _ _ (by omega), (h.res.other _ _ _ (by omega)).other _ _ _ (by omega), by
    have h1 := (h.net.set (x * 8 + y) (.int .i64 v)).set (y * 8 + x) (.int .i64 v)
    rwa [net_set _ hx hy, net_congr (d := d) (fun i j _ _ => (hd i j).symm)] at h1⟩
theorem zero_lit : (net fun _ _ => 0).toArray = #[.int .i64 0, .int .i64 0, .int .i64 0, .int .i64 0, .int .i64 0, .int .i64 0, .int .i64 0, .int .i64 0, .int .i64 0, .int .i64 0, .int .i64 0, .int .i64 0, .int .i64 0, .int .i64 0, .int .i64 0, .int .i64 0, .int .i64 0, .int .i64 0, .int .i64 0, .int .i64 0, .int .i64 0, .int .i64 0, .int .i64 0, .int .i64 0, .int .i64 0, .int .i64 0, .int .i64 0, .int .i64 0, .int .i64 0, .int .i64 0, .int .i64 0, .int .i64 0, .int .i64 0, .int .i64 0, .int .i64 0, .int .i64 0, .int .i64 0, .int .i64 0, .int .i64 0, .int .i64 0, .int .i64 0, .int .i64 0, .int .i64 0, .int .i64 0, .int .i64 0, .int .i64 0, .int .i64 0, .int .i64 0, .int .i64 0, .int .i64 0, .int .i64 0, .int .i64 0, .int .i64 0, .int .i64 0, .int .i64 0, .int .i64 0, .int .i64 0, .int .i64 0, .int .i64 0, .int .i64 0, .int .i64 0, .int .i64 0, .int .i64 0, .int .i64 0] := rfl
theorem size64 (c : Nat → Nat → Int) : (Tryd.prog.info? 74).map (·.size) = some (net c).length := by
  unfold net; rw [ar_len]; kernel_rfl
theorem one_net (c : Nat → Nat → Int) : (net c).toArray.all (·.oneCell') = true := all_oneCell_toArray fun v hv => by
  unfold net ar at hv
  obtain ⟨k, _, rfl⟩ := List.mem_map.1 hv
  rfl
theorem Ch.first (w : World) (z : Nat) (hz : w.heap.size = z) : Ch w ((w.alloc (.cells (Spf.net fun _ _ => 0).toArray 74)).alloc (.cells (Spf.net fun _ _ => 0).toArray 74)) z fun _ _ => 0 := by
  subst hz
  refine ⟨balloc (balloc (brefl w) _) _, (Blk.new w _ _).alloc _, ?_⟩
  have h := Blk.new (w.alloc (.cells (Spf.net fun _ _ => 0).toArray 74)) 74 (Spf.net fun _ _ => 0)
  rwa [show (w.alloc (.cells (Spf.net fun _ _ => 0).toArray 74)).heap.size = w.heap.size + 1 by simp] at h

theorem cheapest_any (n : Nat) (p : Option Addr) (cap m : Nat) (ls : List Lk) (w : World) (g : Vector.Good n ls) (hm : m = ls.length) (hi : CI layL w p cap ls) :
    Calls Tryd.prog 31 #[.slice p m cap] w fun e w' => e = .returned (.agg (net fun i j => zc (co ls i j)).toArray) ∧ Below w.heap.size w w' := by
  have hlen := hi.len_le
  rw [← hm] at hlen
  obtain ⟨z, hz⟩ : ∃ z, w.heap.size = z := ⟨_, rfl⟩
  have HZ := Lib.hid hz
  have HC := Lib.hid (Ch.first w z hz)
  have HG := Lib.hid g
  have HM := Lib.hid hm
  have HI := Lib.hid hi
  rw [hz]
  rw [zero_lit] at HC
  clear g hm hi
  go_enter Tryd.func31, Tryd.ntmps31
  go_wp2_with fail
  generalize (w.alloc _).alloc _ = w1 at HC ⊢
  clear hz
  go_loopw [9] (fun iv wr => ∃ k : Nat, k ≤ m ∧ iv = .int .i64 k ∧ Hid (Ch w wr z (Mk ls k))) (fun i _ => m - (intOf i).toNat)
  case atStart => exact ⟨0, Nat.zero_le _, rfl, HC⟩
  case round =>
    obtain ⟨k, hk, rfl, HQ⟩ := hrel
    clear HC
    by_cases hlt : k < m
    · have t0 : decide ((k : Int) < (m : Int)) = true := decide_eq_true (by omega)
      have hkl : k < ls.length := by rw [← HM.out]; exact hlt
      obtain ⟨bl, off, rfl, hbl, hat⟩ := links_at HI.out (by omega)
      obtain ⟨x0, x1, x2⟩ := hat wr (by rw [HZ.out]; exact HQ.out.bel) k hkl
      have hgd := HG.out.all _ (lk_mem hkl)
      obtain ⟨x, hx⟩ : ∃ x : Nat, (lk ls k).a = (x : Int) := ⟨(lk ls k).a.toNat, by omega⟩
      obtain ⟨y, hy⟩ : ∃ y : Nat, (lk ls k).b = (y : Int) := ⟨(lk ls k).b.toNat, by omega⟩
      obtain ⟨c, hc⟩ : ∃ c, (lk ls k).c = c := ⟨_, rfl⟩
      have HNEW := Lib.hid (Mk_new HG.out hkl hx hy hc)
      have HOLD := Lib.hid (Mk_old HG.out hkl hx hy hc)
      have hMb := Mk_b HG.out (Nat.le_of_lt hkl) x y
      have h8 := HG.out.up
      rw [hx, hy, hc] at hgd
      rw [hx] at x0
      rw [hy] at x1
      rw [hc] at x2
      obtain ⟨⟨_, hxn⟩, ⟨_, hyn⟩, hc1, hxy⟩ := hgd
      have hx8 : x < 8 := by omega
      have hy8 : y < 8 := by omega
      have hx8' : (x : Int) < 8 := by omega
      have hy8' : (y : Int) < 8 := by omega
      have BX := Lib.hid (BoxL.new wr ⟨x, y, c⟩ 39)
      have HB1 := Lib.hid (balloc (brefl wr) (.cells #[.int .i64 x, .int .i64 y, .int .i64 c] 39))
      clear hat hx hy hc hkl hbl hxn hyn
      go_upto_region 5 with (fail)
      obtain ⟨B, hB⟩ : ∃ B, wr.heap.size = B := ⟨_, rfl⟩
      have hBz : z + 1 < B := by rw [← hB]; exact HQ.out.net.lt
      obtain ⟨W1, hW1⟩ : ∃ W, wr.alloc (.cells #[.int .i64 x, .int .i64 y, .int .i64 c] 39) = W := ⟨_, rfl⟩
      have HQ1 := Lib.hid (HQ.out.below HB1.out)
      rw [hW1] at BX HB1 HQ1 ⊢
      rw [hB] at BX ⊢
      clear HQ x0 x1 x2 hW1 HB1 hB wr
      have hne : B ≠ z + 1 := by omega
      have hne' : z + 1 ≠ B := by omega
      clear hBz
      obtain ⟨bl, b0, b1, b2⟩ := BX.out
      simp only at b0 b1 b2
      have c0 : W1.cell? ⟨z + 1, x * 8 + y, none⟩ = some (.int .i64 (Mk ls k x y)) := HQ1.out.net.cell (x * 8 + y) _ (net_get _ hx8 hy8)
      have c1 : W1.cell? ⟨z + 1, y * 8 + x, none⟩ = some (.int .i64 (Mk ls k y x)) := HQ1.out.net.cell (y * 8 + x) _ (net_get _ hy8 hx8)
      have f0 := HQ1.out.net.fz (x * 8 + y)
      have f1 := HQ1.out.net.fz (y * 8 + x)
      obtain ⟨o, ho⟩ : ∃ o, Mk ls k x y = o := ⟨_, rfl⟩
      rw [ho] at c0 hMb HNEW HOLD
      generalize Mk ls k y x = o2 at c1
      clear ho hMb
      by_cases e1 : o = 0
      · have t1 : (o == 0) = true := by rw [e1]; rfl
        have HD := HNEW.out (.inl e1)
        clear e1 HNEW HOLD
        have HQ3 := Lib.hid (fun m => show Ch w (((W1.drewN m).setCell ⟨z + 1, x * 8 + y, none⟩ (.int .i64 c)).setCell ⟨z + 1, y * 8 + x, none⟩ (.int .i64 c)) z (Mk ls (k + 1)) from (Ch.drewN HQ1.out m).set hx8 hy8 c HD)
        clear HQ1 HD
        go_wp2_with fail
        go_quiet (fail)
        go_wp2_with fail
        go_region
        go_wp2_with fail
        go_roundw
        case rel => exact ⟨k + 1, by omega, by first | rfl | go_num, Lib.hid (HQ3.out _)⟩
        case measure => simp [intOf]; omega
      · have t1 : (o == 0) = false := beq_eq_false_iff_ne.2 e1
        by_cases e2 : c < o
        · have t2 : decide (c < o) = true := decide_eq_true e2
          have HD := HNEW.out (.inr e2)
          clear e1 e2 HNEW HOLD
          have HQ3 := Lib.hid (fun m => show Ch w (((W1.drewN m).setCell ⟨z + 1, x * 8 + y, none⟩ (.int .i64 c)).setCell ⟨z + 1, y * 8 + x, none⟩ (.int .i64 c)) z (Mk ls (k + 1)) from (Ch.drewN HQ1.out m).set hx8 hy8 c HD)
          clear HQ1 HD
          go_wp2_with fail
          go_quiet (fail)
          go_wp2_with fail
          go_region
          go_wp2_with fail
          go_roundw
          case rel => exact ⟨k + 1, by omega, by first | rfl | go_num, Lib.hid (HQ3.out _)⟩
          case measure => simp [intOf]; omega
        · have t2 : decide (c < o) = false := decide_eq_false e2
          have HD := HOLD.out (fun h => by rcases h with h | h; exact e1 h; exact e2 h)
          have HQ3 := Lib.hid (fun m => show Ch w (W1.drewN m) z (Mk ls (k + 1)) from by
            rw [show Mk ls (k + 1) = Mk ls k from funext fun i => funext fun j => HD i j]
            exact Ch.drewN HQ1.out m)
          clear e1 e2 HNEW HOLD HQ1 HD
          go_wp2_with fail
          go_quiet (fail)
          go_wp2_with fail
          go_roundw
          case rel => exact ⟨k + 1, by omega, by first | rfl | go_num, Lib.hid (HQ3.out _)⟩
          case measure => simp [intOf]; omega
    · obtain rfl : k = m := by omega
      have t0 : decide ((k : Int) < (k : Int)) = false := decide_eq_false (by omega)
      have HE := Lib.hid (show net (Mk ls k) = net fun i j => zc (co ls i j) from by
        rw [HM.out]; rfl)
      go_upto_region 9 with (fail)
      have hpat := HQ.out.net
      have hres := HQ.out.res
      rw [HE.out] at hpat
      refine wp_region_lit ?_
      obtain ⟨C, hC⟩ : ∃ C, C = (fun i j => zc (co ls i j)) := ⟨_, rfl⟩
      rw [← hC] at HE hpat
      have HCE := Lib.hid hC
      clear hC
      refine wpList_load_mid rfl 74 _ rfl (z + 1) 0 rfl (net C) _ (fun j v hv => by rw [Nat.zero_add]; exact hpat.cell j v hv) Tryd.underlying74 rfl (size64 _) ?_
      refine wpList_store_mid rfl 74 _ _ rfl z 0 (net C).toArray rfl rfl (fun j hj => ⟨?_, by rw [Nat.zero_add]; exact hres.fz j⟩) (by rw [List.size_toArray]; exact size64 _) (one_net _) ?_
      · rw [List.size_toArray] at hj
        unfold net at hj
        rw [ar_len] at hj
        rw [Nat.zero_add, hres.cell j _ (ar_get _ hj)]
        rfl
      have HR9 := Lib.hid (blk_cells hres (net C) (by unfold net; rw [ar_len, ar_len]))
      have HB9 := Lib.hid (show Below z w (wr.setCells z 0 (net C)) from gbelow HQ.out.bel (by rw [HZ.out]; exact Nat.le_refl _) (cells_grown z (net C) wr 0) (Nat.le_refl _))
      rw [show (net C).toArray.toList = net C from rfl]
      generalize wr.setCells z 0 (net C) = w9 at HR9 HB9 ⊢
      clear hpat hres
      have HV := Lib.hid (size64 C)
      obtain ⟨V, hV⟩ : ∃ V, net C = V := ⟨_, rfl⟩
      rw [hV] at HR9 HV HE ⊢
      have HVE := Lib.hid hV
      clear hV
      go_wp2_with fail
      exact bodyPost_ret (results_cell_row rfl _ _ z 74 V.toArray (0, 0) _ rfl HR9.out Tryd.underlying74 rfl HV.out) rfl ⟨by rw [← HVE.out, HCE.out], HB9.out⟩
end Go.Proofs.YtedhippamfioeaaDoor.Spf
