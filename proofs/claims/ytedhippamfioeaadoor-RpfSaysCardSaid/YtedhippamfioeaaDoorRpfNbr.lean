/- Package rpf: neighbors. No statement is proved here. -/
import Derived.Test.YtedhippamfioeaaDoorSpf6
import Derived.Test.YtedhippamfioeaaDoorRpfMath
namespace Go.Proofs.YtedhippamfioeaaDoor.Rpf
open Go.ChangeShapes Go.WideShapes Go.ChangeAt Go.RowKit Go.Proofs.YtedhippamfioeaaDoor.Kit Go.Proofs.YtedhippamfioeaaDoor.App Go.Proofs.YtedhippamfioeaaDoor.Cells Go.Proofs.YtedhippamfioeaaDoor.Err Go.Proofs.YtedhippamfioeaaDoor.Vector Go.Proofs.YtedhippamfioeaaDoor.Spf
set_option linter.unusedVariables false
set_option maxRecDepth 20000
set_option maxHeartbeats 1000000

/-- Who is linked to whom, as the cells of an array of arrays. -/
def jar (f : Nat → Nat → Bool) : List Value := ar 64 fun k => .bool (f (k / 8) (k % 8))
theorem jar_get (f : Nat → Nat → Bool) {i j : Nat} (hi : i < 8) (hj : j < 8) : (jar f)[i * 8 + j]? = some (.bool (f i j)) := by
  unfold jar
  rw [ar_get _ (by omega), show (i * 8 + j) / 8 = i by omega, show (i * 8 + j) % 8 = j by omega]
theorem jar_set (f : Nat → Nat → Bool) {x y : Nat} (hx : x < 8) (hy : y < 8) (v : Bool) : ((jar f).set (x * 8 + y) (.bool v)).set (y * 8 + x) (.bool v) = jar fun i j => if both x y i j then v else f i j := by
  unfold jar
  rw [ar_set, ar_set]
  refine ar_congr fun k hk => ?_
  show _ = Value.bool (if both x y (k / 8) (k % 8) then v else f (k / 8) (k % 8))
  by_cases h1 : k = y * 8 + x
  · rw [if_pos h1, if_pos (by unfold both; omega)]
  · rw [if_neg h1]
    by_cases h2 : k = x * 8 + y
    · rw [if_pos h2, if_pos (by unfold both; omega)]
    · rw [if_neg h2, if_neg (by unfold both; omega)]
/-- Who is linked by one of the first k links. -/
def Jk (ls : List Lk) (k i j : Nat) : Bool := decide (cst ls (i : Int) (j : Int) k ≠ 1000)
def jn (ls : List Lk) (i j : Nat) : Bool := decide (co ls i j ≠ 1000)
variable {n : Nat} {ls : List Lk}
theorem Jk_new (g : Vector.Good n ls) {k x y : Nat} (hk : k < ls.length) (ha : (lk ls k).a = (x : Int)) (hb : (lk ls k).b = (y : Int)) (i j : Nat) :
    Jk ls (k + 1) i j = if both x y i j then true else Jk ls k i j := by
  have hl := g.all _ (lk_mem hk)
  have hf : fit (lk ls k) (i : Int) (j : Int) ↔ both x y i j := by unfold fit both; rw [ha, hb]; omega
  unfold Jk
  by_cases hij : both x y i j
  · rw [if_pos hij, decide_eq_true_eq]
    by_cases hc : (lk ls k).c < cst ls (i : Int) (j : Int) k
    · rw [cst_yes (hf.2 hij) hc]; omega
    · rw [cst_no (fun e => hc e.2)]; omega
  · rw [if_neg hij, cst_no (fun e => hij (hf.1 e.1))]
/-- The cells while the links are gone through. -/
structure Jh (w wr : World) (z : Nat) (c : Nat → Nat → Bool) : Prop where
  bel : Below z w wr
  net : Blk 45 wr z (jar c)
theorem Jh.below {w wr w' : World} {z : Nat} {c : Nat → Nat → Bool} (h : Jh w wr z c) (hb : Below wr.heap.size wr w') : Jh w w' z c :=
  ⟨h.bel.trans (hb.mono (Nat.le_of_lt h.net.lt)), h.net.below hb⟩
theorem Jh.drewN {w wr : World} {z : Nat} {c : Nat → Nat → Bool} (h : Jh w wr z c) (m : Nat) : Jh w (wr.drewN m) z c := ⟨bdrewN h.bel m, h.net⟩
theorem Jh.set {w wr : World} {z : Nat} {c d : Nat → Nat → Bool} (h : Jh w wr z c) {x y : Nat} (hx : x < 8) (hy : y < 8) (v : Bool) (hd : ∀ i j, d i j = if both x y i j then v else c i j) :
    Jh w ((wr.setCell ⟨z, x * 8 + y, none⟩ (.bool v)).setCell ⟨z, y * 8 + x, none⟩ (.bool v)) z d :=
  ⟨below_set (below_set h.bel _ _ _ (Nat.le_refl _)) _ _ _ (Nat.le_refl _), by
    have h1 := (h.net.set (x * 8 + y) (.bool v)).set (y * 8 + x) (.bool v)
    rwa [jar_set _ hx hy, show (fun i j => if both x y i j then v else c i j) = d from funext fun i => funext fun j => (hd i j).symm] at h1⟩
theorem jar_lit : (jar fun _ _ => false).toArray = #[.bool false, .bool false, .bool false, .bool false, .bool false, .bool false, .bool false, .bool false, .bool false, .bool false, .bool false, .bool false, .bool false, .bool false, .bool false, .bool false, .bool false, .bool false, .bool false, .bool false, .bool false, .bool false, .bool false, .bool false, .bool false, .bool false, .bool false, .bool false, .bool false, .bool false, .bool false, .bool false, .bool false, .bool false, .bool false, .bool false, .bool false, .bool false, .bool false, .bool false, .bool false, .bool false, .bool false, .bool false, .bool false, .bool false, .bool false, .bool false, .bool false, .bool false, .bool false, .bool false, .bool false, .bool false, .bool false, .bool false, .bool false, .bool false, .bool false, .bool false, .bool false, .bool false, .bool false, .bool false] := rfl
theorem size64j (c : Nat → Nat → Bool) : (Tryd.prog.info? 45).map (·.size) = some (jar c).length := by
  unfold jar; rw [ar_len]; kernel_rfl
theorem one_jar (c : Nat → Nat → Bool) : (jar c).toArray.all (·.oneCell') = true := all_oneCell_toArray fun v hv => by
  unfold jar ar at hv
  obtain ⟨k, _, rfl⟩ := List.mem_map.1 hv
  rfl
theorem Jh.first (w : World) (z : Nat) (hz : w.heap.size = z) : Jh w (w.alloc (.cells (jar fun _ _ => false).toArray 45)) z fun _ _ => false := by
  subst hz
  exact ⟨balloc (brefl w) _, Blk.new w _ _⟩

theorem neighbors_any (n : Nat) (p : Option Addr) (cap m : Nat) (ls : List Lk) (w : World) (g : Vector.Good n ls) (hm : m = ls.length) (hi : CI layL w p cap ls) :
    Calls Tryd.prog 17 #[.slice p m cap] w fun e w' => e = .returned (.agg (jar (jn ls)).toArray) ∧ Below w.heap.size w w' := by
  have hlen := hi.len_le
  rw [← hm] at hlen
  obtain ⟨z, hz⟩ : ∃ z, w.heap.size = z := ⟨_, rfl⟩
  have HZ := Lib.hid hz
  have HC := Lib.hid (Jh.first w z hz)
  have HG := Lib.hid g
  have HM := Lib.hid hm
  have HI := Lib.hid hi
  rw [hz]
  rw [jar_lit] at HC
  clear g hm hi
  go_enter Tryd.func17, Tryd.ntmps17
  go_wp2_with fail
  generalize w.alloc _ = w1 at HC ⊢
  clear hz
  go_loopw [7] (fun iv wr => ∃ k : Nat, k ≤ m ∧ iv = .int .i64 k ∧ Hid (Jh w wr z (Jk ls k))) (fun i _ => m - (intOf i).toNat)
  case atStart => exact ⟨0, Nat.zero_le _, rfl, HC⟩
  case round =>
    obtain ⟨k, hk, rfl, HQ⟩ := hrel
    clear HC
    by_cases hlt : k < m
    · have t0 : decide ((k : Int) < (m : Int)) = true := decide_eq_true (by omega)
      have hkl : k < ls.length := by rw [← HM.out]; exact hlt
      obtain ⟨bl, off, rfl, hbl, hat⟩ := links_at HI.out (by omega)
      obtain ⟨x0, x1, x2⟩ := hat wr (by rw [HZ.out]; exact HQ.out.bel) k hkl
      have hgd := HG.out.all _ (lk_mem hkl)
      obtain ⟨x, hx⟩ : ∃ x : Nat, (lk ls k).a = (x : Int) := ⟨(lk ls k).a.toNat, by omega⟩
      obtain ⟨y, hy⟩ : ∃ y : Nat, (lk ls k).b = (y : Int) := ⟨(lk ls k).b.toNat, by omega⟩
      obtain ⟨c, hc⟩ : ∃ c, (lk ls k).c = c := ⟨_, rfl⟩
      have HNEW := Lib.hid (Jk_new HG.out hkl hx hy)
      have h8 := HG.out.up
      rw [hx, hy, hc] at hgd
      rw [hx] at x0
      rw [hy] at x1
      rw [hc] at x2
      obtain ⟨⟨_, hxn⟩, ⟨_, hyn⟩, hc1, hxy⟩ := hgd
      have hx8 : x < 8 := by omega
      have hy8 : y < 8 := by omega
      have hx8' : (x : Int) < 8 := by omega
      have hy8' : (y : Int) < 8 := by omega
      have BX := Lib.hid (BoxL.new wr ⟨x, y, c⟩ 39)
      have HB1 := Lib.hid (balloc (brefl wr) (.cells #[.int .i64 x, .int .i64 y, .int .i64 c] 39))
      clear hat hx hy hc hkl hbl hxn hyn
      go_upto_region 4 with (fail)
      obtain ⟨B, hB⟩ : ∃ B, wr.heap.size = B := ⟨_, rfl⟩
      have hBz : z < B := by rw [← hB]; exact HQ.out.net.lt
      obtain ⟨W1, hW1⟩ : ∃ W, wr.alloc (.cells #[.int .i64 x, .int .i64 y, .int .i64 c] 39) = W := ⟨_, rfl⟩
      have HQ1 := Lib.hid (HQ.out.below HB1.out)
      rw [hW1] at BX HB1 HQ1 ⊢
      rw [hB] at BX ⊢
      clear HQ x0 x1 x2 hW1 HB1 hB wr
      have hne : B ≠ z := by omega
      have hne' : z ≠ B := by omega
      clear hBz
      obtain ⟨bl, b0, b1, b2⟩ := BX.out
      simp only at b0 b1 b2
      have c0 : W1.cell? ⟨z, x * 8 + y, none⟩ = some (.bool (Jk ls k x y)) := HQ1.out.net.cell (x * 8 + y) _ (jar_get _ hx8 hy8)
      have c1 : W1.cell? ⟨z, y * 8 + x, none⟩ = some (.bool (Jk ls k y x)) := HQ1.out.net.cell (y * 8 + x) _ (jar_get _ hy8 hx8)
      have f0 := HQ1.out.net.fz (x * 8 + y)
      have f1 := HQ1.out.net.fz (y * 8 + x)
      generalize Jk ls k x y = o1 at c0
      generalize Jk ls k y x = o2 at c1
      have HQ3 := Lib.hid (fun m => show Jh w (((W1.drewN m).setCell ⟨z, x * 8 + y, none⟩ (.bool true)).setCell ⟨z, y * 8 + x, none⟩ (.bool true)) z (Jk ls (k + 1)) from (Jh.drewN HQ1.out m).set hx8 hy8 true HNEW.out)
      clear HQ1 HNEW
      go_region
      go_wp2_with fail
      go_roundw
      case rel => exact ⟨k + 1, by omega, by first | rfl | go_num, Lib.hid (HQ3.out _)⟩
      case measure => simp [intOf]; omega
    · obtain rfl : k = m := by omega
      have t0 : decide ((k : Int) < (k : Int)) = false := decide_eq_false (by omega)
      have HE := Lib.hid (show jar (Jk ls k) = jar (jn ls) from by
        rw [HM.out]; rfl)
      go_upto_region 6 with (fail)
      have hpat := HQ.out.net
      rw [HE.out] at hpat
      refine wp_region_lit ?_
      obtain ⟨C, hC⟩ : ∃ C, C = jn ls := ⟨_, rfl⟩
      rw [← hC] at HE hpat
      have HCE := Lib.hid hC
      clear hC
      refine wpList_load_mid rfl 45 _ rfl z 0 rfl (jar C) _ (fun j v hv => by rw [Nat.zero_add]; exact hpat.cell j v hv) Tryd.underlying45 rfl (size64j _) ?_
      refine wpList_store_mid rfl 45 _ _ rfl z 0 (jar C).toArray rfl rfl (fun j hj => ⟨?_, by rw [Nat.zero_add]; exact hpat.fz j⟩) (by rw [List.size_toArray]; exact size64j _) (one_jar _) ?_
      · rw [List.size_toArray] at hj
        unfold jar at hj
        rw [ar_len] at hj
        rw [Nat.zero_add, hpat.cell j _ (ar_get _ hj)]
        rfl
      have HR9 := Lib.hid (blk_cells hpat (jar C) rfl)
      have HB9 := Lib.hid (show Below z w (wr.setCells z 0 (jar C)) from gbelow HQ.out.bel (by rw [HZ.out]; exact Nat.le_refl _) (cells_grown z (jar C) wr 0) (Nat.le_refl _))
      rw [show (jar C).toArray.toList = jar C from rfl]
      generalize wr.setCells z 0 (jar C) = w9 at HR9 HB9 ⊢
      clear hpat
      have HV := Lib.hid (size64j C)
      obtain ⟨V, hV⟩ : ∃ V, jar C = V := ⟨_, rfl⟩
      rw [hV] at HR9 HV HE ⊢
      have HVE := Lib.hid hV
      clear hV
      go_wp2_with fail
      exact bodyPost_ret (results_cell_row rfl _ _ z 45 V.toArray (0, 0) _ rfl HR9.out Tryd.underlying45 rfl HV.out) rfl ⟨by rw [← HVE.out, HCE.out], HB9.out⟩
end Go.Proofs.YtedhippamfioeaaDoor.Rpf
