/- Contracts of slices.swapRangeCmpFunc and slices.rotateCmpFunc. No statement is proved here. -/
import Derived.Test.YtaflpdagehocfaaDoorSortMath
import Derived.Test.YtaflpdagehocfaaDoorPartBox
import Derived.Shelf.SlSortCmp.KitK
import Derived.Sort.WalkB2
import Derived.Sort.WalkB12
import Derived.Deep.LoopGhost
namespace Go.Proofs.YtaflpdagehocfaaDoor.Srt
open Go.Proofs.YtaflpdagehocfaaDoor.Part
open Go.Shelf Go.RowKit Go.Lib Go.Sort Go.ChangeAt Go.Proofs.YtaflpdagehocfaaDoor.Kit
set_option linter.unusedVariables false
set_option maxRecDepth 100000

def encT (x : Tg) : List Value := cells x.1
theorem mixed : Tryd.prog.follows .mixedOrders = true := by kernel_rfl
theorem encT_len (x : Tg) : (encT x).length = 3 := rfl
theorem encT_one (x : Tg) : ∀ v ∈ encT x, v.oneCell' = true := fun v hv => by
  simp only [encT, cells, List.mem_cons, List.not_mem_nil, or_false] at hv
  rcases hv with rfl | rfl | rfl <;> rfl
theorem at_three {w0 W : World} {blk off : Nat} {d0 dk : Array Tg} (S : SWK encT 3 w0 blk off dk W) (R : RowK encT 3 w0 blk off d0) (hs : dk.size = d0.size) (i : Nat) (hi : i < dk.size) {x : Tg} (hx : dk[i]! = x) :
    W.cell? ⟨blk, off + i * 3, none⟩ = some (.int .i64 x.1.pos) ∧ W.frozen? ⟨blk, off + i * 3, none⟩ = false ∧ W.cell? ⟨blk, off + i * 3 + 1, none⟩ = some (.bool x.1.more) ∧ W.frozen? ⟨blk, off + i * 3 + 1, none⟩ = false ∧
      W.cell? ⟨blk, off + i * 3 + 2, none⟩ = some (.string x.1.dat) ∧ W.frozen? ⟨blk, off + i * 3 + 2, none⟩ = false := by
  subst hx
  have hh := S.holds R.hblk R.hH hs
  have h0 := hh.cell (i := i) (c := 0) hi (by omega)
  have h1 := hh.cell (i := i) (c := 1) hi (by omega)
  have h2 := hh.cell (i := i) (c := 2) hi (by omega)
  exact ⟨h0.1, h0.2, h1.1, h1.2, h2.1, h2.2⟩
theorem at_grown {w0 W : World} {blk off : Nat} {d0 dk : Array Tg} (S : SWK encT 3 w0 blk off dk W) (R : RowK encT 3 w0 blk off d0) (hs : dk.size = d0.size) (i : Nat) (hi : i < dk.size) {x : Tg} (hx : dk[i]! = x) (n : Nat) (os : Array Obj) :
    (grow (W.drewN n) os).cell? ⟨blk, off + i * 3, none⟩ = some (.int .i64 x.1.pos) ∧ (grow (W.drewN n) os).cell? ⟨blk, off + i * 3 + 1, none⟩ = some (.bool x.1.more) ∧ (grow (W.drewN n) os).cell? ⟨blk, off + i * 3 + 2, none⟩ = some (.string x.1.dat) := by
  have h := at_three (S.grown n os) R hs i hi hx
  exact ⟨h.1, h.2.2.1, h.2.2.2.2.1⟩
theorem swapped {w0 W : World} {blk off : Nat} {d0 dk : Array Tg} (S : SWK encT 3 w0 blk off dk W) (R : RowK encT 3 w0 blk off d0) (i j : Nat) (hi : i < dk.size) (hj : j < dk.size) {xp yp : Int} {xm ym : Bool} {xs ys : ByteArray} {xt yt : Nat} (hx : dk[i]! = ⟨⟨xp, xm, xs⟩, xt⟩) (hy : dk[j]! = ⟨⟨yp, ym, ys⟩, yt⟩) :
    SWK encT 3 w0 blk off (swp dk i j) ((((((((W).setCell ⟨blk, off + i * 3, none⟩ (.int .i64 yp)).setCell ⟨blk, off + i * 3 + 1, none⟩ (.bool ym)).setCell ⟨blk, off + i * 3 + 2, none⟩ (.string ys)).setCell ⟨blk, off + j * 3, none⟩ (.int .i64 xp)).setCell ⟨blk, off + j * 3 + 1, none⟩ (.bool xm)).setCell ⟨blk, off + j * 3 + 2, none⟩ (.string xs)).drew) := by
  have h := (S.swap R.hk R.hblk i j hi hj).drew
  rw [hx, hy] at h
  exact h

set_option maxHeartbeats 4000000 in
theorem swapRange_any (blk off cap a b n sz : Nat) (cb : Value) (d0 d : Array Tg) (w0 w : World) (hsz0 : sz = d.size) (R : RowK encT 3 w0 blk off d0) (hs : d0.size = d.size) (S : SWK encT 3 w0 blk off d w) (hab : a + n ≤ b) (hb : b + n ≤ d.size) (hsz : d.size ≤ 40) :
    Calls Tryd.prog 45 #[.slice (some ⟨blk, off, none⟩) sz cap, .int .i64 a, .int .i64 b, .int .i64 n, cb] w fun e w' => e = .returned (.tuple #[]) ∧ ∃ d', SWK encT 3 w0 blk off d' w' ∧ d'.size = d.size ∧ fn d' = sw a b n (fn d) ∧ ∀ lo hi, lo ≤ a → b + n ≤ hi → hi ≤ d.size → PermIn lo hi d d' := by
  subst hsz0
  have S0 : Aside (SWK encT 3 w0 blk off d w) := S
  have hmix := mixed
  clear S
  go_enter Tryd.func45, Tryd.ntmps45
  go_wp2
  go_loopg [10] n (fun kx s8 wr => ∃ (i : Nat) (dk : Array Tg), s8 = .int .i64 i ∧ i ≤ n ∧ n - i ≤ kx ∧ dk.size = d.size ∧ Aside (SWK encT 3 w0 blk off dk wr) ∧ Hid (fn dk = sw a b i (fn d) ∧ ∀ lo hi, lo ≤ a → b + n ≤ hi → hi ≤ d.size → PermIn lo hi d dk))
  case atStart => exact ⟨0, d, rfl, Nat.zero_le _, Nat.le_refl _, rfl, S0, (sw_zero a b _).symm, fun _ _ _ _ _ => permIn_refl _ _ _⟩
  case round =>
    clear S0
    obtain ⟨i, dk, rfl, hin, hkx, hds, S1, HF⟩ := hrel
    by_cases hlt : i < n
    · have hltz : (i : Int) < (n : Int) := by omega
      go_wp2_with fail
      have ea : ((a : Int) + (i : Int)).toNat = a + i := by omega
      have pa : (0 : Int) ≤ (a : Int) + (i : Int) := by omega
      have ba : (a : Int) + (i : Int) < (d.size : Int) := by omega
      have ra : IntKind.i64.wrap ((a : Int) + (i : Int)) = (a : Int) + (i : Int) := by rw [IntKind.wrap_i64]; omega
      have eb : ((b : Int) + (i : Int)).toNat = b + i := by omega
      have pb : (0 : Int) ≤ (b : Int) + (i : Int) := by omega
      have bb : (b : Int) + (i : Int) < (d.size : Int) := by omega
      have rb : IntKind.i64.wrap ((b : Int) + (i : Int)) = (b : Int) + (i : Int) := by rw [IntKind.wrap_i64]; omega
      obtain ⟨⟨⟨xp, xm, xs⟩, xt⟩, hx⟩ : ∃ x, dk[(a + i)]! = x := ⟨_, rfl⟩
      obtain ⟨⟨⟨yp, ym, ys⟩, yt⟩, hy⟩ : ∃ x, dk[(b + i)]! = x := ⟨_, rfl⟩
      obtain ⟨x0, fx0, x1, fx1, x2, fx2⟩ := at_three S1.out R (show dk.size = d0.size by omega) (a + i) (by omega) hx
      obtain ⟨y0, fy0, y1, fy1, y2, fy2⟩ := at_three S1.out R (show dk.size = d0.size by omega) (b + i) (by omega) hy
      simp only at x0 x1 x2 y0 y1 y2
      have S2 : Aside (SWK encT 3 w0 blk off (swp dk (a + i) (b + i)) ((((((((wr).setCell ⟨blk, off + (a + i) * 3, none⟩ (.int .i64 yp)).setCell ⟨blk, off + (a + i) * 3 + 1, none⟩ (.bool ym)).setCell ⟨blk, off + (a + i) * 3 + 2, none⟩ (.string ys)).setCell ⟨blk, off + (b + i) * 3, none⟩ (.int .i64 xp)).setCell ⟨blk, off + (b + i) * 3 + 1, none⟩ (.bool xm)).setCell ⟨blk, off + (b + i) * 3 + 2, none⟩ (.string xs)).drew)) := swapped S1.out R (a + i) (b + i) (by omega) (by omega) hx hy
      have HX := Lib.hid hx
      have HY := Lib.hid hy
      clear S1 hx hy
      go_wp2_with fail
      go_big_region_o
      generalize (((((((wr).setCell ⟨blk, off + (a + i) * 3, none⟩ (.int .i64 yp)).setCell ⟨blk, off + (a + i) * 3 + 1, none⟩ (.bool ym)).setCell ⟨blk, off + (a + i) * 3 + 2, none⟩ (.string ys)).setCell ⟨blk, off + (b + i) * 3, none⟩ (.int .i64 xp)).setCell ⟨blk, off + (b + i) * 3 + 1, none⟩ (.bool xm)).setCell ⟨blk, off + (b + i) * 3 + 2, none⟩ (.string xs)).drew = w2 at S2 ⊢
      go_wp2
      go_roundg (n - (i + 1))
      case measure => omega
      case rel =>
        refine ⟨i + 1, swp dk (a + i) (b + i), by go_num, by omega, Nat.le_refl _, by rw [size_swp]; exact hds, S2, ?_, fun lo hi h1 h2 h3 => perm_swp (HF.out.2 lo hi h1 h2 h3) _ _ (by omega) (by omega) (by omega) (by omega) h3⟩
        rw [fn_swp dk _ _ (by omega) (by omega), HF.out.1]
        exact sw_succ a b i (fn d) (by omega)
    · have hltz : ¬ (i : Int) < (n : Int) := by omega
      obtain rfl : i = n := by omega
      go_wp2
      go_end0
      exact ⟨rfl, dk, S1.out, hds, HF.out.1, HF.out.2⟩

set_option maxHeartbeats 4000000 in
theorem rotate_any (blk off cap a m b sz : Nat) (cb : Value) (d0 d : Array Tg) (w0 w : World) (hsz0 : sz = d.size) (R : RowK encT 3 w0 blk off d0) (hs : d0.size = d.size) (S : SWK encT 3 w0 blk off d w) (ham : a < m) (hmb : m < b) (hb : b ≤ d.size) (hsz : d.size ≤ 40) :
    Calls Tryd.prog 44 #[.slice (some ⟨blk, off, none⟩) sz cap, .int .i64 a, .int .i64 m, .int .i64 b, cb] w fun e w' => e = .returned (.tuple #[]) ∧ ∃ d', SWK encT 3 w0 blk off d' w' ∧ d'.size = d.size ∧ fn d' = rt a m b (fn d) ∧ PermIn a b d d' := by
  subst hsz0
  have S0 : Aside (SWK encT 3 w0 blk off d w) := S
  have SR : Aside _ := @swapRange_any
  clear S
  have t1 : (m : Int) - (a : Int) = ((m - a : Nat) : Int) := by omega
  have t2 : (b : Int) - (m : Int) = ((b - m : Nat) : Int) := by omega
  go_enter Tryd.func44, Tryd.ntmps44
  go_wp2_with fail
  go_loopg [10, 11] (b - a) (fun kx s1 s2 wr => ∃ (i j : Nat) (dk : Array Tg), s1 = .int .i64 i ∧ s2 = .int .i64 j ∧ 0 < i ∧ 0 < j ∧ i ≤ m - a ∧ j ≤ b - m ∧ i + j ≤ kx ∧ dk.size = d.size ∧ Aside (SWK encT 3 w0 blk off dk wr) ∧ Hid (rt (m - i) m (m + j) (fn dk) = rt a m b (fn d) ∧ PermIn a b d dk))
  case atStart => exact ⟨m - a, b - m, d, rfl, rfl, by omega, by omega, Nat.le_refl _, Nat.le_refl _, by omega, rfl, S0, by rw [show m - (m - a) = a by omega, show m + (b - m) = b by omega], permIn_refl _ _ _⟩
  case round =>
    clear S0 t1 t2
    obtain ⟨i, j, dk, rfl, rfl, hi0, hj0, hi, hj, hkx, hds, S1, HF⟩ := hrel
    have t3 : (m : Int) - (i : Int) = ((m - i : Nat) : Int) := by omega
    rcases Nat.lt_trichotomy i j with hij | hij | hij
    · have c1 : ((i : Int) != (j : Int)) = true := by rw [bne_iff_ne]; omega
      have c2 : decide ((i : Int) > (j : Int)) = false := decide_eq_false (by omega)
      have t4 : (m : Int) + (j : Int) - (i : Int) = ((m + j - i : Nat) : Int) := by omega
      go_wp2_with fail
      refine (SR.out blk off cap (m - i) (m + j - i) i d.size cb d0 dk w0 wr (by omega) R (by omega) S1.out (by omega) (by omega) (by omega)).mono ?_
      rintro e w2 ⟨rfl, dn, S2, hs2, hf2, hp2⟩
      have S3 : Aside _ := S2
      have P3 := Lib.hid (hp2 a b (by omega) (by omega) (by omega))
      have F3 := Lib.hid hf2
      clear S1 S2 hp2 hf2
      go_wp2_with fail
      go_roundg (i + (j - i))
      case measure => omega
      case rel => exact ⟨i, j - i, dn, rfl, by congr 1; omega, hi0, by omega, hi, by omega, Nat.le_refl _, by omega, S3, by rw [← HF.out.1, rt_lt m i j (fn dk) (by omega) hij, F3.out], permIn_trans _ _ _ _ _ HF.out.2 P3.out⟩
    · subst hij
      have c1 : ((i : Int) != (i : Int)) = false := by simp
      go_wp2_with fail
      refine (SR.out blk off cap (m - i) m i d.size cb d0 dk w0 wr (by omega) R (by omega) S1.out (by omega) (by omega) (by omega)).mono ?_
      rintro e w2 ⟨rfl, dn, S2, hs2, hf2, hp2⟩
      go_wp2_with fail
      go_end0
      exact ⟨rfl, dn, S2, by omega, by rw [hf2, ← rt_eq m i (fn dk) (by omega), HF.out.1], permIn_trans _ _ _ _ _ HF.out.2 (hp2 a b (by omega) (by omega) (by omega))⟩
    · have c1 : ((i : Int) != (j : Int)) = true := by rw [bne_iff_ne]; omega
      have c2 : decide ((i : Int) > (j : Int)) = true := decide_eq_true (by omega)
      go_wp2_with fail
      refine (SR.out blk off cap (m - i) m j d.size cb d0 dk w0 wr (by omega) R (by omega) S1.out (by omega) (by omega) (by omega)).mono ?_
      rintro e w2 ⟨rfl, dn, S2, hs2, hf2, hp2⟩
      have S3 : Aside _ := S2
      have P3 := Lib.hid (hp2 a b (by omega) (by omega) (by omega))
      have F3 := Lib.hid hf2
      clear S1 S2 hp2 hf2
      go_wp2_with fail
      go_roundg (i - j + j)
      case measure => omega
      case rel => exact ⟨i - j, j, dn, by congr 1; omega, rfl, by omega, hj0, by omega, hj, Nat.le_refl _, by omega, S3, by rw [← HF.out.1, rt_gt m i j (fn dk) (by omega) hij, F3.out], permIn_trans _ _ _ _ _ HF.out.2 P3.out⟩
end Go.Proofs.YtaflpdagehocfaaDoor.Srt
