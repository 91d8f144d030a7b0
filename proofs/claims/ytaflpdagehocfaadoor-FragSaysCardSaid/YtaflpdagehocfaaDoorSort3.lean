/- Contracts of slices.symMergeCmpFunc where one side has one element. No statement is proved here. -/
import Derived.Test.YtaflpdagehocfaaDoorSort2
namespace Go.Proofs.YtaflpdagehocfaaDoor.Srt
open Go.Proofs.YtaflpdagehocfaaDoor.Part
open Go.Shelf Go.RowKit Go.Lib Go.Sort Go.ChangeAt Go.Proofs.YtaflpdagehocfaaDoor.Kit
set_option linter.unusedVariables false
set_option maxRecDepth 100000

theorem left_done {a i b : Nat} {f : Nat → Tg} (P : Pre a (a + 1) b f) (h1 : a + 1 ≤ i) (h2 : i ≤ b) (hl : ∀ q, a + 1 ≤ q → q < i → (f q).1.pos < (f a).1.pos) (hr : ∀ q, i ≤ q → q < b → (f a).1.pos ≤ (f q).1.pos) : Inc a b (rt a (a + 1) i f) := by
  obtain ⟨P1, P2, A⟩ := split P (Nat.le_refl a) (Nat.le_succ a) h1 h2 (fun p q hp hp2 _ _ => by omega) (fun p q hp hp2 hq hq2 => by
    obtain rfl : p = a := by omega
    exact ahead_lt (hl q hq hq2))
  refine inc_join (m := a + (i - (a + 1))) (pre_left P1) (inc_join (m := i) P2.l P2.r fun p q hp hp2 hq hq2 => ?_) A
  have e1 : rt a (a + 1) i f p = f a := by unfold rt; rw [if_neg (by omega), if_pos (by omega)]; congr 1; omega
  have e2 : rt a (a + 1) i f q = f q := by unfold rt; rw [if_neg (by omega), if_neg (by omega)]
  rw [e1, e2]
  exact ahead_of (hr q hq hq2) (P.t a q (Nat.le_refl _) (by omega) (by omega) hq2)
theorem right_done {a i m : Nat} {f : Nat → Tg} (P : Pre a m (m + 1) f) (h1 : a ≤ i) (h2 : i ≤ m) (hl : ∀ q, a ≤ q → q < i → (f q).1.pos ≤ (f m).1.pos) (hr : ∀ q, i ≤ q → q < m → (f m).1.pos < (f q).1.pos) : Inc a (m + 1) (rt i m (m + 1) f) := by
  obtain ⟨P1, P2, A⟩ := split P h1 h2 (Nat.le_succ m) (Nat.le_refl _) (fun p q hp hp2 hq hq2 => by omega) (fun p q hp hp2 hq hq2 => by
    obtain rfl : q = m := by omega
    exact ahead_lt (hr p hp hp2))
  refine inc_join (m := i + (m + 1 - m)) (inc_join (m := i) P1.l P1.r fun p q hp hp2 hq hq2 => ?_) (pre_right P2) A
  have e1 : rt i m (m + 1) f p = f p := by unfold rt; rw [if_neg (by omega), if_neg (by omega)]
  have e2 : rt i m (m + 1) f q = f m := by unfold rt; rw [if_pos (by omega)]; congr 1; omega
  rw [e1, e2]
  exact ahead_of (hl p hp hp2) (P.t p m hp (by omega) (Nat.le_refl _) (by omega))

set_option maxHeartbeats 4000000 in
theorem sym_left (blk off cap a m b sz : Nat) (d0 d : Array Tg) (w0 w : World) (hsz0 : sz = d.size) (R : RowK encT 3 w0 blk off d0) (hs : d0.size = d.size) (S : SWK encT 3 w0 blk off d w) (ham : m = a + 1) (hmb : m < b) (hb : b ≤ d.size) (hsz : d.size ≤ 40) (hP : Pre a m b (fn d)) :
    Calls Tryd.prog 40 #[.slice (some ⟨blk, off, none⟩) sz cap, .int .i64 a, .int .i64 m, .int .i64 b, .func (.func 23) #[] #[]] w fun e w' => e = .returned (.tuple #[]) ∧ ∃ d', SWK encT 3 w0 blk off d' w' ∧ d'.size = d.size ∧ PermIn a b d d' ∧ Inc a b (fn d') := by
  subst hsz0
  subst ham
  have HC : Aside _ := cmpLays blk off d0.size w0
  have S0 : Aside (SWK encT 3 w0 blk off d w) := S
  have P : Aside _ := hP
  have hmix := mixed
  have t1 : ((a : Int) + 1 - (a : Int) == 1) = true := by rw [beq_iff_eq]; omega
  have t2 : ((a + 1 : Nat) : Int) - (a : Int) = 1 := by omega
  clear S hP
  go_enter Tryd.func40, Tryd.ntmps40
  go_wp2_with fail
  go_loopg [10, 11] (b - a) (fun kx s1 s2 wr => ∃ i j : Nat, s1 = .int .i64 i ∧ s2 = .int .i64 j ∧ a + 1 ≤ i ∧ i ≤ j ∧ j ≤ b ∧ j - i ≤ kx ∧ Aside (SWK encT 3 w0 blk off d wr) ∧ Hid ((∀ q, a + 1 ≤ q → q < i → (fn d q).1.pos < (fn d a).1.pos) ∧ (∀ q, j ≤ q → q < b → (fn d a).1.pos ≤ (fn d q).1.pos)))
  case atStart => exact ⟨a + 1, b, by go_num, rfl, Nat.le_refl _, by omega, Nat.le_refl _, by omega, S0, fun q h1 h2 => by omega, fun q h1 h2 => by omega⟩
  case round =>
    clear S0
    obtain ⟨i, j, rfl, rfl, hai, hij, hjb, hkx, S1, HI⟩ := hrel
    by_cases hlt : i < j
    · have c1 : decide ((i : Int) < (j : Int)) = true := decide_eq_true (by omega)
      obtain ⟨h, hh⟩ : ∃ h, (i + j) / 2 = h := ⟨_, rfl⟩
      have t3 : ((i : Int) + (j : Int)) / 2 = (h : Int) := by omega
      have h1 : i ≤ h := by omega
      have h2 : h < j := by omega
      have h3 : h < d.size := by omega
      have h4 : a < d.size := by omega
      clear hh
      obtain ⟨⟨⟨xp, xm, xs⟩, xt⟩, hx⟩ : ∃ x, d[h]! = x := ⟨_, rfl⟩
      obtain ⟨⟨⟨yp, ym, ys⟩, yt⟩, hy⟩ : ∃ x, d[a]! = x := ⟨_, rfl⟩
      have gx0 := fun n os => (at_grown S1.out R (show d.size = d0.size by omega) h (by omega) hx n os).1
      have gx1 := fun n os => (at_grown S1.out R (show d.size = d0.size by omega) h (by omega) hx n os).2.1
      have gx2 := fun n os => (at_grown S1.out R (show d.size = d0.size by omega) h (by omega) hx n os).2.2
      have gy0 := fun n os => (at_grown S1.out R (show d.size = d0.size by omega) a (by omega) hy n os).1
      have gy1 := fun n os => (at_grown S1.out R (show d.size = d0.size by omega) a (by omega) hy n os).2.1
      have gy2 := fun n os => (at_grown S1.out R (show d.size = d0.size by omega) a (by omega) hy n os).2.2
      simp only at gx0 gx1 gx2 gy0 gy1 gy2
      have hcg : ∀ n os, Calls Tryd.prog 23 #[.agg #[.int .i64 xp, .bool xm, .string xs], .agg #[.int .i64 yp, .bool ym, .string ys]] (grow (wr.drewN n) os) fun e w' => e = .returned (.int .i64 (cmpI xp yp)) ∧ ∃ q os', w' = grow ((grow (wr.drewN n) os).drewN q) os' := fun n os => S1.out.cmp HC.out (show d.size = d0.size by omega) ((⟨xp, xm, xs⟩, xt) : Tg) ((⟨yp, ym, ys⟩, yt) : Tg) n os
      obtain ⟨cv, hcv⟩ : ∃ c, cmpI xp yp = c := ⟨_, rfl⟩
      rw [hcv] at hcg
      have HCV := Lib.hid hcv
      have HX := Lib.hid hx
      have HY := Lib.hid hy
      clear hx hy hcv
      by_cases hlv : cv < 0
      · have c2 : decide (cv < 0) = true := decide_eq_true hlv
        go_wp2_with fail
        go_quiet_grown (refine Calls.grown_of (hcg _ _))
        go_wp2_with fail
        have S4 : Aside (SWK encT 3 w0 blk off d (grow (wr.drewN nq) osq)) := S1.out.grown nq osq
        go_roundg (j - (h + 1))
        case measure => omega
        case rel =>
          refine ⟨h + 1, j, by go_num, rfl, by omega, by omega, hjb, Nat.le_refl _, S4, fun q q1 q2 => ?_, HI.out.2⟩
          have e1 : (fn d h).1.pos < (fn d a).1.pos := by
            have f1 : fn d h = _ := HX.out
            have f2 : fn d a = _ := HY.out
            rw [f1, f2]; exact (cmpI_neg _ _).1 (by rw [HCV.out]; exact hlv)
          have e2 := inc_le P.out.r (show a + 1 ≤ q by omega) (show q ≤ h by omega) (by omega)
          omega
      · have c2 : decide (cv < 0) = false := decide_eq_false hlv
        go_wp2_with fail
        go_quiet_grown (refine Calls.grown_of (hcg _ _))
        go_wp2_with fail
        have S4 : Aside (SWK encT 3 w0 blk off d (grow (wr.drewN nq) osq)) := S1.out.grown nq osq
        go_roundg (h - i)
        case measure => omega
        case rel =>
          refine ⟨i, h, rfl, by go_num, hai, h1, by omega, Nat.le_refl _, S4, HI.out.1, fun q q1 q2 => ?_⟩
          have e1 : ¬ (fn d h).1.pos < (fn d a).1.pos := by
            have f1 : fn d h = _ := HX.out
            have f2 : fn d a = _ := HY.out
            rw [f1, f2]; exact mt (cmpI_neg _ _).2 (by rw [HCV.out]; omega)
          have e2 := inc_le P.out.r (show a + 1 ≤ h by omega) q1 q2
          omega
    · have c1 : decide ((i : Int) < (j : Int)) = false := decide_eq_false (by omega)
      obtain rfl : i = j := by omega
      go_wp2_with fail
      go_loopg [13] (i - 1 - a) (fun kx s1 wr2 => ∃ (k : Nat) (dk : Array Tg), s1 = .int .i64 k ∧ a ≤ k ∧ k ≤ i - 1 ∧ i - 1 - k ≤ kx ∧ dk.size = d.size ∧ Aside (SWK encT 3 w0 blk off dk wr2) ∧ Hid (fn dk = rt a (a + 1) (k + 1) (fn d) ∧ PermIn a b d dk))
      case atStart => exact ⟨a, d, rfl, Nat.le_refl _, by omega, Nat.le_refl _, rfl, S1, (rt_right _ _ _).symm, permIn_refl _ _ _⟩
      case round =>
        clear S1
        obtain ⟨k, dk, rfl, hak, hki, hkx2, hds, S1, HF⟩ := hrel
        by_cases hlt2 : k < i - 1
        · have c3 : decide ((k : Int) < (i : Int) - 1) = true := decide_eq_true (by omega)
          have g1 : IntKind.i64.wrap ((k : Int) + 1) = (k : Int) + 1 := by rw [IntKind.wrap_i64]; omega
          have g2 : ((k : Int) + 1).toNat = k + 1 := by omega
          have g3 : (0 : Int) ≤ (k : Int) + 1 := by omega
          have g4 : (k : Int) + 1 < (d.size : Int) := by omega
          have g5 : (k : Int) < (d.size : Int) := by omega
          go_wp2_with fail
          obtain ⟨⟨⟨xp, xm, xs⟩, xt⟩, hx⟩ : ∃ x, dk[k]! = x := ⟨_, rfl⟩
          obtain ⟨⟨⟨yp, ym, ys⟩, yt⟩, hy⟩ : ∃ x, dk[(k + 1)]! = x := ⟨_, rfl⟩
          obtain ⟨x0, fx0, x1, fx1, x2, fx2⟩ := at_three S1.out R (show dk.size = d0.size by omega) k (by omega) hx
          obtain ⟨y0, fy0, y1, fy1, y2, fy2⟩ := at_three S1.out R (show dk.size = d0.size by omega) (k + 1) (by omega) hy
          simp only at x0 x1 x2 y0 y1 y2
          have S2 : Aside (SWK encT 3 w0 blk off (swp dk k (k + 1)) ((((((((wr).setCell ⟨blk, off + k * 3, none⟩ (.int .i64 yp)).setCell ⟨blk, off + k * 3 + 1, none⟩ (.bool ym)).setCell ⟨blk, off + k * 3 + 2, none⟩ (.string ys)).setCell ⟨blk, off + (k + 1) * 3, none⟩ (.int .i64 xp)).setCell ⟨blk, off + (k + 1) * 3 + 1, none⟩ (.bool xm)).setCell ⟨blk, off + (k + 1) * 3 + 2, none⟩ (.string xs)).drew)) := swapped S1.out R k (k + 1) (by omega) (by omega) hx hy
          have HX := Lib.hid hx
          have HY := Lib.hid hy
          clear S1 hx hy
          go_wp2_with fail
          go_big_region_o
          generalize (((((((wr).setCell ⟨blk, off + k * 3, none⟩ (.int .i64 yp)).setCell ⟨blk, off + k * 3 + 1, none⟩ (.bool ym)).setCell ⟨blk, off + k * 3 + 2, none⟩ (.string ys)).setCell ⟨blk, off + (k + 1) * 3, none⟩ (.int .i64 xp)).setCell ⟨blk, off + (k + 1) * 3 + 1, none⟩ (.bool xm)).setCell ⟨blk, off + (k + 1) * 3 + 2, none⟩ (.string xs)).drew = w2 at S2 ⊢
          go_wp2_with fail
          go_roundg (i - 1 - (k + 1))
          case measure => omega
          case rel =>
            refine ⟨k + 1, swp dk k (k + 1), by go_num, by omega, by omega, Nat.le_refl _, by rw [size_swp]; exact hds, S2, ?_, perm_swp HF.out.2 _ _ (by omega) (by omega) (by omega) (by omega) (by omega)⟩
            rw [fn_swp dk _ _ (by omega) (by omega), HF.out.1]
            exact rt_push a k (fn d) hak
        · have c3 : decide ((k : Int) < (i : Int) - 1) = false := decide_eq_false (by omega)
          obtain rfl : k = i - 1 := by omega
          go_wp2_with fail
          refine bodyPost_ret (results_none rfl _ _ _) rfl ?_
          refine ⟨rfl, dk, S1.out, hds, HF.out.2, ?_⟩
          rw [HF.out.1, show i - 1 + 1 = i by omega]
          exact left_done P.out hai hjb HI.out.1 HI.out.2

set_option maxHeartbeats 4000000 in
theorem sym_right (blk off cap a m b sz : Nat) (d0 d : Array Tg) (w0 w : World) (hsz0 : sz = d.size) (R : RowK encT 3 w0 blk off d0) (hs : d0.size = d.size) (S : SWK encT 3 w0 blk off d w) (ham : a + 1 < m) (hmb : b = m + 1) (hb : b ≤ d.size) (hsz : d.size ≤ 40) (hP : Pre a m b (fn d)) :
    Calls Tryd.prog 40 #[.slice (some ⟨blk, off, none⟩) sz cap, .int .i64 a, .int .i64 m, .int .i64 b, .func (.func 23) #[] #[]] w fun e w' => e = .returned (.tuple #[]) ∧ ∃ d', SWK encT 3 w0 blk off d' w' ∧ d'.size = d.size ∧ PermIn a b d d' ∧ Inc a b (fn d') := by
  subst hsz0
  subst hmb
  have HC : Aside _ := cmpLays blk off d0.size w0
  have S0 : Aside (SWK encT 3 w0 blk off d w) := S
  have P : Aside _ := hP
  have hmix := mixed
  have t1 : ((m : Int) - (a : Int) == 1) = false := by rw [beq_eq_false_iff_ne]; omega
  have t2 : ((m : Int) + 1 - (m : Int)) = 1 := by omega
  have h4 : m < d.size := by omega
  clear S hP
  go_enter Tryd.func40, Tryd.ntmps40
  go_wp2_with fail
  go_loopg [14, 15] (m - a) (fun kx s1 s2 wr => ∃ i j : Nat, s1 = .int .i64 i ∧ s2 = .int .i64 j ∧ a ≤ i ∧ i ≤ j ∧ j ≤ m ∧ j - i ≤ kx ∧ Aside (SWK encT 3 w0 blk off d wr) ∧ Hid ((∀ q, a ≤ q → q < i → (fn d q).1.pos ≤ (fn d m).1.pos) ∧ (∀ q, j ≤ q → q < m → (fn d m).1.pos < (fn d q).1.pos)))
  case atStart => exact ⟨a, m, rfl, rfl, Nat.le_refl _, by omega, Nat.le_refl _, by omega, S0, fun q h1 h2 => by omega, fun q h1 h2 => by omega⟩
  case round =>
    clear S0
    obtain ⟨i, j, rfl, rfl, hai, hij, hjb, hkx, S1, HI⟩ := hrel
    by_cases hlt : i < j
    · have c1 : decide ((i : Int) < (j : Int)) = true := decide_eq_true (by omega)
      obtain ⟨h, hh⟩ : ∃ h, (i + j) / 2 = h := ⟨_, rfl⟩
      have t3 : ((i : Int) + (j : Int)) / 2 = (h : Int) := by omega
      have h1 : i ≤ h := by omega
      have h2 : h < j := by omega
      have h3 : h < d.size := by omega
      clear hh
      obtain ⟨⟨⟨xp, xm, xs⟩, xt⟩, hx⟩ : ∃ x, d[m]! = x := ⟨_, rfl⟩
      obtain ⟨⟨⟨yp, ym, ys⟩, yt⟩, hy⟩ : ∃ x, d[h]! = x := ⟨_, rfl⟩
      have gx0 := fun n os => (at_grown S1.out R (show d.size = d0.size by omega) m (by omega) hx n os).1
      have gx1 := fun n os => (at_grown S1.out R (show d.size = d0.size by omega) m (by omega) hx n os).2.1
      have gx2 := fun n os => (at_grown S1.out R (show d.size = d0.size by omega) m (by omega) hx n os).2.2
      have gy0 := fun n os => (at_grown S1.out R (show d.size = d0.size by omega) h (by omega) hy n os).1
      have gy1 := fun n os => (at_grown S1.out R (show d.size = d0.size by omega) h (by omega) hy n os).2.1
      have gy2 := fun n os => (at_grown S1.out R (show d.size = d0.size by omega) h (by omega) hy n os).2.2
      simp only at gx0 gx1 gx2 gy0 gy1 gy2
      have hcg : ∀ n os, Calls Tryd.prog 23 #[.agg #[.int .i64 xp, .bool xm, .string xs], .agg #[.int .i64 yp, .bool ym, .string ys]] (grow (wr.drewN n) os) fun e w' => e = .returned (.int .i64 (cmpI xp yp)) ∧ ∃ q os', w' = grow ((grow (wr.drewN n) os).drewN q) os' := fun n os => S1.out.cmp HC.out (show d.size = d0.size by omega) ((⟨xp, xm, xs⟩, xt) : Tg) ((⟨yp, ym, ys⟩, yt) : Tg) n os
      obtain ⟨cv, hcv⟩ : ∃ c, cmpI xp yp = c := ⟨_, rfl⟩
      rw [hcv] at hcg
      have HCV := Lib.hid hcv
      have HX := Lib.hid hx
      have HY := Lib.hid hy
      clear hx hy hcv
      by_cases hlv : cv < 0
      · have c2 : decide (cv < 0) = true := decide_eq_true hlv
        go_wp2_with fail
        go_quiet_grown (refine Calls.grown_of (hcg _ _))
        go_wp2_with fail
        have S4 : Aside (SWK encT 3 w0 blk off d (grow (wr.drewN nq) osq)) := S1.out.grown nq osq
        go_roundg (h - i)
        case measure => omega
        case rel =>
          refine ⟨i, h, rfl, by go_num, hai, h1, by omega, Nat.le_refl _, S4, HI.out.1, fun q q1 q2 => ?_⟩
          have e1 : (fn d m).1.pos < (fn d h).1.pos := by
            have f1 : fn d m = _ := HX.out
            have f2 : fn d h = _ := HY.out
            rw [f1, f2]; exact (cmpI_neg _ _).1 (by rw [HCV.out]; exact hlv)
          have e2 := inc_le P.out.l (show a ≤ h by omega) q1 q2
          omega
      · have c2 : decide (cv < 0) = false := decide_eq_false hlv
        go_wp2_with fail
        go_quiet_grown (refine Calls.grown_of (hcg _ _))
        go_wp2_with fail
        have S4 : Aside (SWK encT 3 w0 blk off d (grow (wr.drewN nq) osq)) := S1.out.grown nq osq
        go_roundg (j - (h + 1))
        case measure => omega
        case rel =>
          refine ⟨h + 1, j, by go_num, rfl, by omega, by omega, hjb, Nat.le_refl _, S4, fun q q1 q2 => ?_, HI.out.2⟩
          have e1 : ¬ (fn d m).1.pos < (fn d h).1.pos := by
            have f1 : fn d m = _ := HX.out
            have f2 : fn d h = _ := HY.out
            rw [f1, f2]; exact mt (cmpI_neg _ _).2 (by rw [HCV.out]; omega)
          have e2 := inc_le P.out.l q1 (show q ≤ h by omega) (by omega)
          omega
    · have c1 : decide ((i : Int) < (j : Int)) = false := decide_eq_false (by omega)
      obtain rfl : i = j := by omega
      go_wp2_with fail
      go_loopg [17] (m - i) (fun kx s1 wr2 => ∃ (k : Nat) (dk : Array Tg), s1 = .int .i64 k ∧ i ≤ k ∧ k ≤ m ∧ k - i ≤ kx ∧ dk.size = d.size ∧ Aside (SWK encT 3 w0 blk off dk wr2) ∧ Hid (fn dk = rt k m (m + 1) (fn d) ∧ PermIn a (m + 1) d dk))
      case atStart => exact ⟨m, d, rfl, by omega, Nat.le_refl _, Nat.le_refl _, rfl, S1, (rt_left _ _ _).symm, permIn_refl _ _ _⟩
      case round =>
        clear S1
        obtain ⟨k, dk, rfl, hik, hkm, hkx2, hds, S1, HF⟩ := hrel
        by_cases hlt2 : i < k
        · have c3 : decide ((k : Int) > (i : Int)) = true := decide_eq_true (by omega)
          obtain ⟨jp, rfl⟩ : ∃ jp, k = jp + 1 := ⟨k - 1, by omega⟩
          have c4 : (i : Int) < (jp : Int) + 1 := by omega
          have hwp : IntKind.i64.wrap (jp : Int) = (jp : Int) := by rw [IntKind.wrap_i64]; omega
          have jz : (jp : Int) + 1 < (d.size : Int) := by omega
          have jz1 : (jp : Int) < (d.size : Int) := by omega
          have p0 : (0 : Int) ≤ (jp : Int) + 1 := by omega
          have e0 : ((jp : Int) + 1).toNat = jp + 1 := by omega
          go_wp2_with fail
          obtain ⟨⟨⟨xp, xm, xs⟩, xt⟩, hx⟩ : ∃ x, dk[(jp + 1)]! = x := ⟨_, rfl⟩
          obtain ⟨⟨⟨yp, ym, ys⟩, yt⟩, hy⟩ : ∃ x, dk[jp]! = x := ⟨_, rfl⟩
          obtain ⟨x0, fx0, x1, fx1, x2, fx2⟩ := at_three S1.out R (show dk.size = d0.size by omega) (jp + 1) (by omega) hx
          obtain ⟨y0, fy0, y1, fy1, y2, fy2⟩ := at_three S1.out R (show dk.size = d0.size by omega) jp (by omega) hy
          simp only at x0 x1 x2 y0 y1 y2
          have S2 : Aside (SWK encT 3 w0 blk off (swp dk (jp + 1) jp) ((((((((wr).setCell ⟨blk, off + (jp + 1) * 3, none⟩ (.int .i64 yp)).setCell ⟨blk, off + (jp + 1) * 3 + 1, none⟩ (.bool ym)).setCell ⟨blk, off + (jp + 1) * 3 + 2, none⟩ (.string ys)).setCell ⟨blk, off + jp * 3, none⟩ (.int .i64 xp)).setCell ⟨blk, off + jp * 3 + 1, none⟩ (.bool xm)).setCell ⟨blk, off + jp * 3 + 2, none⟩ (.string xs)).drew)) := swapped S1.out R (jp + 1) jp (by omega) (by omega) hx hy
          have HX := Lib.hid hx
          have HY := Lib.hid hy
          clear S1 hx hy
          go_wp2_with fail
          go_big_region_o
          generalize (((((((wr).setCell ⟨blk, off + (jp + 1) * 3, none⟩ (.int .i64 yp)).setCell ⟨blk, off + (jp + 1) * 3 + 1, none⟩ (.bool ym)).setCell ⟨blk, off + (jp + 1) * 3 + 2, none⟩ (.string ys)).setCell ⟨blk, off + jp * 3, none⟩ (.int .i64 xp)).setCell ⟨blk, off + jp * 3 + 1, none⟩ (.bool xm)).setCell ⟨blk, off + jp * 3 + 2, none⟩ (.string xs)).drew = w2 at S2 ⊢
          go_wp2_with fail
          go_roundg (jp - i)
          case measure => omega
          case rel =>
            refine ⟨jp, swp dk (jp + 1) jp, by first | rfl | go_num | (congr 1; omega), by omega, by omega, Nat.le_refl _, by rw [size_swp]; exact hds, S2, ?_, perm_swp HF.out.2 _ _ (by omega) (by omega) (by omega) (by omega) (by omega)⟩
            rw [fn_swp dk _ _ (by omega) (by omega), HF.out.1]
            exact rt_pull jp m (fn d) hkm
        · have c3 : decide ((k : Int) > (i : Int)) = false := decide_eq_false (by omega)
          obtain rfl : k = i := by omega
          go_wp2_with fail
          refine bodyPost_ret (results_none rfl _ _ _) rfl ?_
          refine ⟨rfl, dk, S1.out, hds, HF.out.2, ?_⟩
          rw [HF.out.1]
          exact right_done P.out hai hkm HI.out.1 HI.out.2
end Go.Proofs.YtaflpdagehocfaaDoor.Srt
