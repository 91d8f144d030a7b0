/- Contracts of cmp.Compare, the comparison of fragments, and slices.insertionSortCmpFunc. No statement is proved here. -/
import Derived.Test.YtaflpdagehocfaaDoorSort1
import Derived.Shelf.SlSortCmp.QuietGrown
namespace Go.Proofs.YtaflpdagehocfaaDoor.Srt
open Go.Proofs.YtaflpdagehocfaaDoor.Part
open Go.Shelf Go.RowKit Go.Lib Go.Sort Go.ChangeAt Go.Proofs.YtaflpdagehocfaaDoor.Kit
set_option linter.unusedVariables false
set_option maxRecDepth 100000

def cmpI (x y : Int) : Int := if x < y then -1 else if y < x then 1 else 0
theorem cmpI_neg (x y : Int) : cmpI x y < 0 ↔ x < y := by
  unfold cmpI; by_cases h : x < y
  · rw [if_pos h]; omega
  · rw [if_neg h]; split <;> omega
theorem nan_any (x : Int) (w : World) : Calls Tryd.prog 33 #[.int .i64 x] w fun e w' => e = .returned (.bool false) ∧ w' = w := by
  have t1 : (x != x) = false := by simp
  go_enter Tryd.func33, Tryd.ntmps33
  go_wp2_with fail
  go_ret
  exact ⟨rfl, rfl⟩
theorem compare_any (x y : Int) (w : World) (R : Int) (hR : R = cmpI x y) : Calls Tryd.prog 24 #[.int .i64 x, .int .i64 y] w fun e w' => e = .returned (.int .i64 R) ∧ w' = w := by
  have NN : Aside _ := nan_any
  rcases Int.lt_trichotomy x y with h | h | h
  · have hR' : R = -1 := by rw [hR]; unfold cmpI; rw [if_pos h]
    clear hR
    subst hR'
    have t1 : decide (x < y) = true := decide_eq_true h
    go_enter Tryd.func24, Tryd.ntmps24
    go_wp2_with fail
    refine (NN.out _ _).mono ?_; rintro e w1 ⟨rfl, rfl⟩
    go_wp2_with fail
    refine (NN.out _ _).mono ?_; rintro e w2 ⟨rfl, rfl⟩
    go_wp2_with fail
    go_ret
    exact ⟨rfl, rfl⟩
  · have hR' : R = 0 := by rw [hR]; unfold cmpI; rw [if_neg (by omega), if_neg (by omega)]
    clear hR
    subst hR'
    subst h
    have t1 : decide (x < x) = false := decide_eq_false (by omega)
    have t2 : decide (x > x) = false := decide_eq_false (by omega)
    go_enter Tryd.func24, Tryd.ntmps24
    go_wp2_with fail
    refine (NN.out _ _).mono ?_; rintro e w1 ⟨rfl, rfl⟩
    go_wp2_with fail
    refine (NN.out _ _).mono ?_; rintro e w2 ⟨rfl, rfl⟩
    go_wp2_with fail
    go_ret
    exact ⟨rfl, rfl⟩
  · have hR' : R = 1 := by rw [hR]; unfold cmpI; rw [if_neg (by omega), if_pos h]
    clear hR
    subst hR'
    have t1 : decide (x < y) = false := decide_eq_false (by omega)
    have t2 : decide (x > y) = true := decide_eq_true h
    go_enter Tryd.func24, Tryd.ntmps24
    go_wp2_with fail
    refine (NN.out _ _).mono ?_; rintro e w1 ⟨rfl, rfl⟩
    go_wp2_with fail
    refine (NN.out _ _).mono ?_; rintro e w2 ⟨rfl, rfl⟩
    go_wp2_with fail
    go_ret
    exact ⟨rfl, rfl⟩
set_option maxHeartbeats 1000000 in
theorem closure_any (xp yp : Int) (xm ym : Bool) (xs ys : ByteArray) (W : World) :
    Calls Tryd.prog 23 #[.agg #[.int .i64 xp, .bool xm, .string xs], .agg #[.int .i64 yp, .bool ym, .string ys]] W fun e w' => e = .returned (.int .i64 (cmpI xp yp)) ∧ ∃ q os', w' = grow (W.drewN q) os' := by
  have CC := Lib.hid (fun W' => compare_any xp yp W' _ rfl)
  generalize cmpI xp yp = r at CC ⊢
  go_enter Tryd.func23, Tryd.ntmps23
  go_wp2_with fail
  refine (CC.out _).mono ?_; rintro e w1 ⟨rfl, rfl⟩
  go_wp2_with fail
  go_ret
  exact ⟨rfl, 0, _, by rw [alloc_eq_grow, alloc_eq_grow, grow_grow]; rfl⟩
def cfT (x y : Tg) : Int := cmpI x.1.pos y.1.pos
theorem cmpLays (blk off size : Nat) (w : World) : CmpLays Tryd.prog 23 #[] encT 3 cfT blk off size w := fun _ _ _ _ x y => closure_any x.1.pos y.1.pos x.1.more y.1.more x.1.dat y.1.dat _

theorem insertion_none (p : Option Addr) (blk off cap a sz : Nat) (g : Value) (w : World) (h : a ≤ 1000) :
    Calls Tryd.prog 39 #[.slice p sz cap, .int .i64 a, .int .i64 a, g] w fun e w' => e = .returned (.tuple #[]) ∧ w' = w := by
  have t1 : decide ((a : Int) + 1 < (a : Int)) = false := decide_eq_false (by omega)
  go_enter Tryd.func39, Tryd.ntmps39
  go_wp2_with fail
  refine wp_loop_rounds 1 ?_
  rw [rounds_succ]
  go_wp2_with fail
  go_end0
  exact ⟨rfl, rfl⟩

set_option maxHeartbeats 4000000 in
theorem insertion_any (blk off cap a b sz : Nat) (d0 d : Array Tg) (w0 w : World) (hsz0 : sz = d.size) (R : RowK encT 3 w0 blk off d0) (hs : d0.size = d.size) (S : SWK encT 3 w0 blk off d w) (hab : a < b) (hb : b ≤ d.size) (hsz : d.size ≤ 40) (hT : ∀ p q, a ≤ p → p < q → q < b → (fn d p).2 < (fn d q).2) :
    Calls Tryd.prog 39 #[.slice (some ⟨blk, off, none⟩) sz cap, .int .i64 a, .int .i64 b, .func (.func 23) #[] #[]] w fun e w' => e = .returned (.tuple #[]) ∧ ∃ d', SWK encT 3 w0 blk off d' w' ∧ d'.size = d.size ∧ PermIn a b d d' ∧ Inc a b (fn d') := by
  subst hsz0
  have HC : Aside _ := cmpLays blk off d0.size w0
  have HT : Aside _ := hT
  have S0 : Aside (SWK encT 3 w0 blk off d w) := S
  have hmix := mixed
  clear S hT
  go_enter Tryd.func39, Tryd.ntmps39
  go_wp2_with fail
  go_loopg [8] (b - a) (fun g1 vi wr => ∃ (i : Nat) (dk : Array Tg), vi = .int .i64 i ∧ a < i ∧ i ≤ b ∧ b - i ≤ g1 ∧ dk.size = d.size ∧ Aside (SWK encT 3 w0 blk off dk wr) ∧ Hid (PermIn a i d dk ∧ Inc a i (fn dk)))
  case atStart => exact ⟨a + 1, d, by go_num, by omega, by omega, by omega, rfl, S0, permIn_refl _ _ _, inc_none (by omega)⟩
  case round =>
    clear S0
    obtain ⟨i, dk, rfl, hai, hib, hg1, hsk, S1, HF⟩ := hrel
    by_cases hlt : i < b
    · have hltz : (i : Int) < (b : Int) := by omega
      go_wp2_with fail
      go_loopg [9] i (fun g2 vj wr2 => ∃ (j : Nat) (dj : Array Tg), vj = .int .i64 j ∧ a ≤ j ∧ j ≤ i ∧ j ≤ g2 ∧ dj.size = d.size ∧ Aside (SWK encT 3 w0 blk off dj wr2) ∧ Hid (PermIn a (i + 1) d dj ∧ Srt.Ins a j i (fn dj)))
      case atStart =>
        refine ⟨i, dk, rfl, by omega, Nat.le_refl _, Nat.le_refl _, hsk, S1, perm_wide HF.out.1 (Nat.le_refl _) (by omega) (by omega), Ins.start HF.out.2 fun p h1 h2 => ?_⟩
        have e : fn dk i = fn d i := permIn_fn HF.out.1 i (.inr (Nat.le_refl _))
        rw [e]
        exact permIn_all d dk a i (fun x => x.2 < (fn d i).2) (by omega) HF.out.1 (fun q h3 h4 => HT.out q i h3 h4 hlt) p h1 h2
      case round =>
        clear S1
        obtain ⟨j, dj, rfl, haj, hji, hg2, hsj, S3, HI⟩ := hrel
        have out : (j ≤ a ∨ (fn dj (j - 1)).1.pos ≤ (fn dj j).1.pos) → Hid (PermIn a (i + 1) d dj ∧ Inc a (i + 1) (fn dj)) := fun hs => ⟨HI.out.1, Ins.stop HI.out.2 hji hs⟩
        have OUT : Aside _ := out
        clear out
        by_cases hja : a < j
        · have hjaz : (a : Int) < (j : Int) := by omega
          obtain ⟨jp, rfl⟩ : ∃ jp, j = jp + 1 := ⟨j - 1, by omega⟩
          have hwp : IntKind.i64.wrap (jp : Int) = (jp : Int) := by rw [IntKind.wrap_i64]; omega
          have jz : (jp : Int) + 1 < (d.size : Int) := by omega
          have jz1 : (jp : Int) < (d.size : Int) := by omega
          have hjaz' : (a : Int) < (jp : Int) + 1 := by omega
          have p0 : (0 : Int) ≤ (jp : Int) + 1 := by omega
          have e0 : ((jp : Int) + 1).toNat = jp + 1 := by omega
          obtain ⟨⟨⟨xp, xm, xs⟩, xt⟩, hx⟩ : ∃ x, dj[(jp + 1)]! = x := ⟨_, rfl⟩
          obtain ⟨⟨⟨yp, ym, ys⟩, yt⟩, hy⟩ : ∃ x, dj[jp]! = x := ⟨_, rfl⟩
          have gx0 := fun n os => (at_grown S3.out R (show dj.size = d0.size by omega) (jp + 1) (by omega) hx n os).1
          have gx1 := fun n os => (at_grown S3.out R (show dj.size = d0.size by omega) (jp + 1) (by omega) hx n os).2.1
          have gx2 := fun n os => (at_grown S3.out R (show dj.size = d0.size by omega) (jp + 1) (by omega) hx n os).2.2
          have gy0 := fun n os => (at_grown S3.out R (show dj.size = d0.size by omega) jp (by omega) hy n os).1
          have gy1 := fun n os => (at_grown S3.out R (show dj.size = d0.size by omega) jp (by omega) hy n os).2.1
          have gy2 := fun n os => (at_grown S3.out R (show dj.size = d0.size by omega) jp (by omega) hy n os).2.2
          simp only at gx0 gx1 gx2 gy0 gy1 gy2
          have hcg : ∀ n os, Calls Tryd.prog 23 #[.agg #[.int .i64 xp, .bool xm, .string xs], .agg #[.int .i64 yp, .bool ym, .string ys]] (grow (wr.drewN n) os) fun e w' => e = .returned (.int .i64 (cmpI xp yp)) ∧ ∃ q os', w' = grow ((grow (wr.drewN n) os).drewN q) os' := fun n os => S3.out.cmp HC.out (show dj.size = d0.size by omega) ((⟨xp, xm, xs⟩, xt) : Tg) ((⟨yp, ym, ys⟩, yt) : Tg) n os
          obtain ⟨cv, hcv⟩ : ∃ c, cmpI xp yp = c := ⟨_, rfl⟩
          rw [hcv] at hcg
          have HCV := Lib.hid hcv
          have HX := Lib.hid hx
          have HY := Lib.hid hy
          clear hx hy hcv
          by_cases hlv : cv < 0
          · go_wp2_with fail
            go_quiet_grown (refine Calls.grown_of (hcg _ _))
            go_wp2_with fail
            have S4 : Aside (SWK encT 3 w0 blk off dj (grow (wr.drewN nq) osq)) := S3.out.grown nq osq
            have hpos : (fn dj (jp + 1)).1.pos < (fn dj jp).1.pos := by
              have e1 : fn dj (jp + 1) = _ := HX.out
              have e2 : fn dj jp = _ := HY.out
              rw [e1, e2]; exact (cmpI_neg _ _).1 (by rw [HCV.out]; exact hlv)
            have HPOS := Lib.hid hpos
            clear S3 gx0 gx1 gx2 gy0 gy1 gy2 hcg hpos HX HY
            generalize grow (wr.drewN nq) osq = wq at S4 ⊢
            obtain ⟨⟨⟨xp, xm, xs⟩, xt⟩, hx⟩ : ∃ x, dj[(jp + 1)]! = x := ⟨_, rfl⟩
            obtain ⟨⟨⟨yp, ym, ys⟩, yt⟩, hy⟩ : ∃ x, dj[jp]! = x := ⟨_, rfl⟩
            obtain ⟨x0, fx0, x1, fx1, x2, fx2⟩ := at_three S4.out R (show dj.size = d0.size by omega) (jp + 1) (by omega) hx
            obtain ⟨y0, fy0, y1, fy1, y2, fy2⟩ := at_three S4.out R (show dj.size = d0.size by omega) jp (by omega) hy
            simp only at x0 x1 x2 y0 y1 y2
            have S2 : Aside (SWK encT 3 w0 blk off (swp dj (jp + 1) jp) ((((((((wq).setCell ⟨blk, off + (jp + 1) * 3, none⟩ (.int .i64 yp)).setCell ⟨blk, off + (jp + 1) * 3 + 1, none⟩ (.bool ym)).setCell ⟨blk, off + (jp + 1) * 3 + 2, none⟩ (.string ys)).setCell ⟨blk, off + jp * 3, none⟩ (.int .i64 xp)).setCell ⟨blk, off + jp * 3 + 1, none⟩ (.bool xm)).setCell ⟨blk, off + jp * 3 + 2, none⟩ (.string xs)).drew)) := swapped S4.out R (jp + 1) jp (by omega) (by omega) hx hy
            have HX := Lib.hid hx
            have HY := Lib.hid hy
            clear S4 hx hy
            go_wp2_with fail
            go_big_region_o
            generalize (((((((wq).setCell ⟨blk, off + (jp + 1) * 3, none⟩ (.int .i64 yp)).setCell ⟨blk, off + (jp + 1) * 3 + 1, none⟩ (.bool ym)).setCell ⟨blk, off + (jp + 1) * 3 + 2, none⟩ (.string ys)).setCell ⟨blk, off + jp * 3, none⟩ (.int .i64 xp)).setCell ⟨blk, off + jp * 3 + 1, none⟩ (.bool xm)).setCell ⟨blk, off + jp * 3 + 2, none⟩ (.string xs)).drew = w2 at S2 ⊢
            go_wp2_with fail
            go_roundg jp
            case measure => omega
            case rel =>
              refine ⟨jp, swp dj (jp + 1) jp, by first | rfl | go_num | (congr 1; omega), by omega, by omega, Nat.le_refl _, by rw [size_swp]; exact hsj, S2, perm_swp HI.out.1 _ _ (by omega) (by omega) (by omega) (by omega) (by omega), ?_⟩
              exact Ins.step HI.out.2 (by omega) hji HPOS.out (fn_swp dj (jp + 1) jp (by omega) (by omega))
          · go_wp2_with fail
            go_quiet_grown (refine Calls.grown_of (hcg _ _))
            go_wp2_with fail
            have S4 : Aside (SWK encT 3 w0 blk off dj (grow (wr.drewN nq) osq)) := S3.out.grown nq osq
            go_roundg (b - (i + 1))
            case measure => omega
            case rel => exact ⟨i + 1, dj, by go_num, by omega, by omega, by omega, hsj, S4, OUT.out (Or.inr (by
              simp only [Nat.add_sub_cancel]
              have e1 : fn dj (jp + 1) = _ := HX.out
              have e2 : fn dj jp = _ := HY.out
              rw [e1, e2]
              have := mt (cmpI_neg xp yp).2 (by rw [HCV.out]; omega)
              simp only; omega))⟩
        · have hjaz : decide ((j : Int) > (a : Int)) = false := decide_eq_false (by omega)
          have hjaz' : ¬ (a : Int) < (j : Int) := by omega
          have S4 : Aside (SWK encT 3 w0 blk off dj wr.drew) := S3.out.drew
          clear S3
          go_wp2_with fail
          go_big_region_o
          all_goals go_wp2_with fail
          go_roundg (b - (i + 1))
          case measure => omega
          case rel => exact ⟨i + 1, dj, by go_num, by omega, by omega, by omega, hsj, S4, OUT.out (Or.inl (by omega))⟩
    · have hltz : ¬ (i : Int) < (b : Int) := by omega
      obtain rfl : i = b := by omega
      go_wp2_with fail
      go_end0
      exact ⟨rfl, dk, S1.out, hsk, HF.out.1, HF.out.2⟩
end Go.Proofs.YtaflpdagehocfaaDoor.Srt
