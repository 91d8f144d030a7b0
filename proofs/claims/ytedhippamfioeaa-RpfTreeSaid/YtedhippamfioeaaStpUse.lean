/- Package stp: Used. No statement is proved here. -/
import Derived.Test.YtedhippamfioeaaStpTree
import Derived.Test.YtedhippamfioeaaStpCheap
import Derived.Test.YtedhippamfioeaaTru
namespace Go.Proofs.Ytedhippamfioeaa.Stp
open Go.ChangeShapes Go.WideShapes Go.ChangeAt Go.RowKit Go.Proofs.Ytedhippamfioeaa.Kit Go.Proofs.Ytedhippamfioeaa.App Go.Proofs.Ytedhippamfioeaa.Cells Go.Proofs.Ytedhippamfioeaa.Err Go.Proofs.Ytedhippamfioeaa.Vector Go.Proofs.Ytedhippamfioeaa.Spf Go.Proofs.Ytedhippamfioeaa.Truth
set_option linter.unusedVariables false
set_option maxRecDepth 20000
set_option maxHeartbeats 1000000

/-- Truths as a map over their places. -/
def bl (m : Nat) (f : Nat → Bool) : List Bool := (List.range m).map f
theorem bl_len (m : Nat) (f : Nat → Bool) : (bl m f).length = m := by simp [bl]
theorem bl_get {m : Nat} {f : Nat → Bool} {k : Nat} (h : k < m) : (bl m f)[k]? = some (f k) := by simp [bl, h]
theorem bl_congr {m : Nat} {f g : Nat → Bool} (h : ∀ k, k < m → f k = g k) : bl m f = bl m g := List.map_congr_left fun k hk => h k (List.mem_range.1 hk)
theorem bl_set {m : Nat} {f : Nat → Bool} (k : Nat) (b : Bool) : (bl m f).set k b = bl m fun j => if j = k then b else f j := by
  refine List.ext_getElem? fun j => ?_
  unfold bl
  rw [List.getElem?_set]
  by_cases e : k = j
  · subst e
    by_cases hk : k < m
    · simp [hk]
    · simp [hk]
  · rw [if_neg e]
    by_cases hj : j < m
    · simp [hj, Ne.symm e]
    · simp [hj]
theorem bl_no (m : Nat) (ls : List Lk) : List.replicate m false = bl m (us ls 0) := by
  refine List.ext_getElem? fun j => ?_
  unfold bl
  by_cases hj : j < m
  · simp [hj, us_zero]
  · simp [hj]
theorem used_bad (n : Int) (p : Option Addr) (cap m : Nat) (ls : List Lk) (w : World) (hm : m = ls.length) (hi : CI layL w p cap ls) (c : Int) (hc : code n ls = c) (h0 : c ≠ 0) :
    Calls Try.prog 12 #[.int .i64 n, .slice p m cap] w fun e w' => e = .returned (.tuple #[.slice none 0 0, er c]) ∧ Below w.heap.size w w' := by
  have C := Lib.hid (tree_bad n p cap m ls w hm hi c hc h0)
  rw [er_ne h0] at C ⊢
  clear hm hi hc h0
  go_enter Try.func12, Try.ntmps12
  go_wp2_with fail
  refine C.out.mono ?_; rintro e w1 ⟨rfl, hb⟩
  have HB2 := Lib.hid hb
  clear hb C
  go_wp2_with fail
  go_ret2
  exact ⟨rfl, HB2.out⟩
theorem used_good (n : Nat) (p : Option Addr) (cap m : Nat) (ls : List Lk) (w : World) (hm : m = ls.length) (hi : CI layL w p cap ls) (g : Vector.Good n ls) :
    Calls Try.prog 12 #[.int .i64 (n : Int), .slice p m cap] w fun e w' => ∃ v, e = .returned (.tuple #[v, .nilIface]) ∧ OwnT w' w.heap.size v (bl m (us ls n)) ∧ Below w.heap.size w w' := by
  have hn8 := g.up
  have hn1 := g.lo
  have hm32 : m ≤ 32 := by rw [hm]; exact g.len
  have C := Lib.hid (tree_good n p cap m ls w hm hi g)
  have CH := Lib.hid (fun W (hW : Below w.heap.size w W) a b => cheapest_any n p cap m ls a b W g hm (hi.below hW))
  have HG := Lib.hid g
  have HM := Lib.hid hm
  clear hm hi g
  go_enter Try.func12, Try.ntmps12
  go_wp2_with fail
  refine C.out.mono ?_; rintro e w1 ⟨v1, v2, v3, rfl, ht⟩
  obtain ⟨go, co, rfl, _, hlt, _, _⟩ := own_pos ht.o3 (by rw [rw1_len]; omega)
  have OV := Lib.hid (fun W (hW : Below w1.heap.size w1 W) j (hj : j < n) => (show W.cell? ⟨go, j, none⟩ = some (.int .i64 (ov ls j)) from by
    rw [hW.cell (p := ⟨go, j, none⟩) hlt, own_cell ht.o3 j (by rw [rw1_len]; exact hj), rw1_get _ _ hj]))
  have HB1 := Lib.hid ht.bel
  rw [rw1_len]
  obtain ⟨w2, hmk, ho2, hg2⟩ := made_truth w1 m (by omega)
  have HB2 := Lib.hid (show Below w1.heap.size w1 w2 from (brefl w1).grown hg2 (Nat.le_refl _) (fun k hk => by cases hk))
  obtain ⟨G, hG⟩ : ∃ G, w1.heap.size = G := ⟨_, rfl⟩
  rw [bl_no m ls] at ho2
  rw [hG] at hmk ho2
  have HO0 := Lib.hid ho2
  have HGG := Lib.hid hG
  clear ht C hlt ho2 hg2 hG
  go_wp2_with fail
  clear hmk
  go_loopw [29] (fun iv wr => ∃ k : Nat, k ≤ n ∧ iv = .int .i64 k ∧ Hid (OwnT wr G (.slice (some ⟨G, 0, none⟩) m m) (bl m (us ls k))) ∧ Hid (Below w1.heap.size w1 wr)) (fun i _ => n - (intOf i).toNat)
  case atStart => exact ⟨0, Nat.zero_le _, rfl, HO0, HB2⟩
  case round =>
    obtain ⟨k, hk, rfl, HO, HR⟩ := hrel
    clear HO0
    by_cases hlt : k < n
    · have t0 : decide ((k : Int) < (n : Int)) = true := decide_eq_true (by omega)
      have t0' : (k : Int) < (n : Int) := by omega
      have c0 := OV.out wr HR.out k hlt
      by_cases hneg : ov ls k < 0
      · have HE := Lib.hid (show bl m (us ls (k + 1)) = bl m (us ls k) from bl_congr fun j _ => us_skip HG.out hneg j)
        have t1 : decide (ov ls k ≥ 0) = false := decide_eq_false (by omega)
        obtain ⟨o, ho⟩ : ∃ o, ov ls k = o := ⟨_, rfl⟩
        rw [ho] at c0 t1
        clear ho hneg
        go_wp2_with fail
        go_roundw
        case rel => exact ⟨k + 1, by omega, by first | rfl | go_num, Lib.hid (by rw [HE.out]; exact HO.out), HR⟩
        case measure => simp [intOf]; omega
      · obtain ⟨v, hv⟩ : ∃ v : Nat, ov ls k = (v : Int) := ⟨(ov ls k).toNat, by omega⟩
        have hu := up_ov HG.out hv
        obtain ⟨j, hj, hb⟩ := lnk_of HG.out (a := k) (b := v) (by have := hu.co; omega)
        have hjm : j < m := by rw [HM.out]; exact hj.lt
        have hjm' : (j : Int) < (m : Int) := by omega
        have HE := Lib.hid (show bl m (us ls (k + 1)) = (bl m (us ls k)).set j true by rw [bl_set]; exact bl_congr fun i _ => us_take ⟨v, hv, hj⟩ i)
        have CC := Lib.hid (CH.out wr (bcall HB1.out HR.out) (k : Int) (v : Int))
        rw [hb] at CC
        have hv8 : v < 8 := by have := hu.lt; omega
        have t1 : decide ((v : Int) ≥ 0) = true := decide_eq_true (by omega)
        rw [hv] at c0
        obtain ⟨x, hx⟩ : ∃ x, us ls k j = x := ⟨_, rfl⟩
        have HX := Lib.hid (show (bl m (us ls k))[j]? = some x by rw [bl_get hjm, hx])
        clear hneg hv hu hj hb hx
        go_wp2_with fail
        refine CC.out.mono ?_; rintro e w3 ⟨rfl, hb3⟩
        have HO3 := Lib.hid (HO.out.below hb3)
        have HR3 := Lib.hid (bcall HR.out hb3)
        have cx := HO3.out.cell j x HX.out
        have fx := HO3.out.fz j
        have HS := Lib.hid (HO3.out.set j true)
        have HB4 := Lib.hid (show Below w1.heap.size w1 (w3.setCell ⟨G, j, none⟩ (.bool true)) from below_set HR3.out G j _ (by rw [HGG.out]; exact Nat.le_refl _))
        clear hb3 HO CC
        go_wp2_with fail
        go_roundw
        case rel => exact ⟨k + 1, by omega, by first | rfl | go_num, Lib.hid (by rw [HE.out]; exact HS.out), HB4⟩
        case measure => simp [intOf]; omega
    · obtain rfl : k = n := by omega
      have t0 : decide ((k : Int) < (k : Int)) = false := decide_eq_false (by omega)
      have HB5 := Lib.hid (bcall HB1.out HR.out)
      have HO5 := Lib.hid (show OwnT wr w.heap.size (.slice (some ⟨G, 0, none⟩) m m) (bl m (us ls k)) from HO.out.mono (by rw [← HGG.out]; exact HB1.out.size))
      go_wp2_with fail
      go_ret2
      exact ⟨_, rfl, HO5.out, HB5.out⟩
end Go.Proofs.Ytedhippamfioeaa.Stp
