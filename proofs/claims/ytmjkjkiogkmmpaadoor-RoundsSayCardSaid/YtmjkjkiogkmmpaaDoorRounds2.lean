/- Package rounds: finisher. No statement is proved here. -/
import Derived.Test.YtmjkjkiogkmmpaaDoorRounds1
namespace Go.Proofs.YtmjkjkiogkmmpaaDoor.Rounds
open Go.ChangeShapes Go.WideShapes Go.ChangeAt Go.RowKit Go.Proofs.YtmjkjkiogkmmpaaDoor.Kit Go.Proofs.YtmjkjkiogkmmpaaDoor.App Go.Proofs.YtmjkjkiogkmmpaaDoor.Cells Go.Proofs.YtmjkjkiogkmmpaaDoor.Err Go.Proofs.YtmjkjkiogkmmpaaDoor.Drr
set_option linter.unusedVariables false
set_option maxRecDepth 20000
set_option maxHeartbeats 1000000

/-- Packets as they may be. -/
structure Few (m : List Pk) : Prop where
  len : m.length ≤ 40
  num : ∀ x ∈ m, ∃ k : Nat, k < 5 ∧ x.num = (k : Int)
  size : ∀ x ∈ m, 1 ≤ x.size ∧ x.size ≤ 20
  rnd : ∀ x ∈ m, 1 ≤ x.rnd ∧ x.rnd ≤ 160
theorem Srt.few {qs : List (List Int)} (hg : Drr.Good qs) {m : List Pk} (h : Srt qs m) : Few m := by
  refine ⟨by rw [h.len]; exact things_le hg, fun x hx => ?_, fun x hx => ?_, fun x hx => ?_⟩
  · obtain ⟨k, h1, h2⟩ := h.num x hx
    exact ⟨k, Nat.lt_of_lt_of_le h1 hg.1, h2⟩
  · obtain ⟨k, h1, h2⟩ := h.num x hx
    obtain ⟨j, hj⟩ := List.getElem?_of_mem hx
    obtain ⟨h3, h4, h5⟩ := h.at hg hj h2
    rw [h4, List.getElem?_eq_getElem h3]
    exact (hg.row k).2 _ (List.getElem_mem h3)
  · obtain ⟨k, h1, h2⟩ := h.num x hx
    obtain ⟨j, hj⟩ := List.getElem?_of_mem hx
    obtain ⟨h3, h4, h5⟩ := h.at hg hj h2
    rw [h5]
    have h6 := hg.row k
    have h7 := tot_le (l := (row qs k).take (((nums m).take j).count (k : Int) + 1)) (M := 20) (fun y hy => (h6.2 y (List.mem_of_mem_take hy)).2)
    have h8 := tot_mono (l := row qs k) (fun y hy => (h6.2 y hy).1) (show 1 ≤ ((nums m).take j).count (k : Int) + 1 by omega)
    have h9 : ((row qs k).take (((nums m).take j).count (k : Int) + 1)).length ≤ 8 := Nat.le_trans (by rw [List.length_take]; omega) h6.1
    cases hr : row qs k with
    | nil => rw [hr] at h3; simp at h3
    | cons y l =>
      have h10 := (h6.2 y (by rw [hr]; simp)).1
      have h11 : tot ((row qs k).take 1) = y := by rw [hr]; simp [tot]
      rw [← hr]
      omega
theorem part_in : ∀ (m : List Pk) (k : Nat), (∀ x ∈ m, 1 ≤ x.size ∧ x.size ≤ 20) → 0 ≤ part m k ∧ part m k ≤ 20 * m.length := fun m k h => by
  have h1 : ∀ x ∈ sizes (sel k m), 1 ≤ x ∧ x ≤ 20 := fun x hx => by
    obtain ⟨p, hp, rfl⟩ := List.mem_map.1 hx
    exact h p (List.mem_filter.1 hp).1
  have h2 := tot_nonneg (fun x hx => (h1 x hx).1)
  have h3 := tot_le (M := 20) (fun x hx => (h1 x hx).2)
  have h4 : (sizes (sel k m)).length ≤ m.length := by
    unfold sizes
    rw [List.length_map]
    exact List.length_filter_le ..
  unfold part
  omega
theorem part_take {m : List Pk} {j k : Nat} {p : Pk} (hp : m[j]? = some p) (hk : p.num = (k : Int)) : part (m.take (j + 1)) = fun i => if i = k then part (m.take j) k + p.size else part (m.take j) i := by
  funext i
  rw [List.take_add_one, hp]
  show part (m.take j ++ [p]) i = _
  rw [part_one _ p k i hk]
  by_cases e : i = k
  · subst e; rw [if_pos rfl, if_pos rfl]
  · rw [if_neg e, if_neg e, Int.add_zero]
/-- The cells of a packet of a slice. -/
theorem pk_cells {w : World} {b off cap : Nat} {m : List Pk} (h : CI lay w (some ⟨b, off, none⟩) cap m) {j : Nat} {x : Pk} (hj : m[j]? = some x) :
    w.cell? ⟨b, off + j * 3, none⟩ = some (.int .i64 x.num) ∧ w.cell? ⟨b, off + j * 3 + 1, none⟩ = some (.int .i64 x.size) ∧ w.cell? ⟨b, off + j * 3 + 2, none⟩ = some (.int .i64 x.rnd) := by
  obtain ⟨b', off', e, _, hc⟩ := h.2.2 (by have := (List.getElem?_eq_some_iff.1 hj).1; omega)
  injection e with e
  injection e with e1 e2
  subst e1; subst e2
  exact ⟨hc j x hj 0 _ rfl, hc j x hj 1 _ rfl, hc j x hj 2 _ rfl⟩
theorem pk_some {w : World} {p : Option Addr} {cap : Nat} {m : List Pk} (h : CI lay w p cap m) (h0 : 0 < m.length) : ∃ b off, p = some ⟨b, off, none⟩ := by
  obtain ⟨b, off, e, _⟩ := h.2.2 h0
  exact ⟨b, off, e⟩

theorem finisher_any (p : Option Addr) (cap n : Nat) (m : List Pk) (w : World) (hn : n = m.length) (hi : CI lay w p cap m) (hf : Few m) (G : Nat) (hG : w.heap.size = G) :
    Calls Tryd.prog 15 #[.slice p n cap] w fun e w' => e = .returned (.func (.func 23) #[] #[.pointer (some ⟨G, 0, none⟩)]) ∧ Blk 55 w' G (tots (part m)) ∧ Below G w w' := by
  have HI := Lib.hid hi
  have HN := Lib.hid hn
  have HF := Lib.hid hf
  have hn40 : n ≤ 40 := by rw [hn]; exact hf.len
  clear hn hi hf
  have HG := Lib.hid hG
  go_enter Tryd.func15, Tryd.ntmps15
  go_wp2_with fail
  have HB0 := Lib.hid (show Blk 55 (w.alloc (.cells #[.int .i64 0, .int .i64 0, .int .i64 0, .int .i64 0, .int .i64 0] 55)) w.heap.size (tots (part (m.take 0))) from Blk.new w _ _)
  have HL0 := Lib.hid (balloc (brefl w) (.cells #[.int .i64 0, .int .i64 0, .int .i64 0, .int .i64 0, .int .i64 0] 55))
  generalize w.alloc (.cells #[.int .i64 0, .int .i64 0, .int .i64 0, .int .i64 0, .int .i64 0] 55) = w1 at HB0 HL0 ⊢
  rw [hG] at HB0 HL0
  clear hG
  go_loopw [8] (fun iv wr => ∃ j : Nat, j ≤ n ∧ iv = .int .i64 j ∧ Hid (Blk 55 wr G (tots (part (m.take j)))) ∧ Hid (Below G w wr)) (fun i _ => n - (intOf i).toNat)
  case atStart => exact ⟨0, Nat.zero_le _, rfl, HB0, HL0⟩
  case round =>
    clear HB0 HL0
    obtain ⟨j, hj, rfl, HB, HL⟩ := hrel
    by_cases hlt : j < n
    · have u1 : decide ((j : Int) < (n : Int)) = true := decide_eq_true (by omega)
      have hjm : j < m.length := by rw [← HN.out]; exact hlt
      obtain ⟨x, hx⟩ : ∃ x, m[j]? = some x := ⟨_, List.getElem?_eq_getElem hjm⟩
      have hxm : x ∈ m := List.mem_of_getElem? hx
      have HIW := Lib.hid (HI.out.below (by rw [HG.out]; exact HL.out))
      obtain ⟨b, off, rfl⟩ := pk_some HIW.out (by omega)
      obtain ⟨c0, c1, c2⟩ := pk_cells HIW.out hx
      obtain ⟨k, hk5, hxk⟩ := HF.out.num x hxm
      have hxs := HF.out.size x hxm
      have HP := Lib.hid (part_take hx hxk)
      have hpi := part_in (m.take j) k (fun y hy => HF.out.size y (List.mem_of_mem_take hy))
      rw [List.length_take, Nat.min_eq_left (by omega)] at hpi
      obtain ⟨xn, xs, xr⟩ := x
      simp only at c0 c1 c2 hxk hxs HP
      subst hxk
      have hgl := HB.out.lt
      have hc := HB.out.cell k _ (tots_get _ k hk5)
      have hfz := HB.out.fz k
      obtain ⟨z, hz⟩ : ∃ z, part (m.take j) k = z := ⟨_, rfl⟩
      have HZ := Lib.hid hz
      rw [hz] at hc hpi
      obtain ⟨z0, z1⟩ := hpi
      obtain ⟨x0, x1⟩ := hxs
      have HB2 := Lib.hid (HB.out.alloc (.cells #[.int .i64 (k : Int), .int .i64 xs, .int .i64 xr] 42))
      have HL2 := Lib.hid (HL.out.alloc (show G ≤ wr.heap.size from Nat.le_of_lt hgl) (.cells #[.int .i64 (k : Int), .int .i64 xs, .int .i64 xr] 42))
      obtain ⟨_, d0, d1, d2⟩ := Box.new wr ⟨k, xs, xr⟩ 42
      simp only at d0 d1 d2
      have hc2 := HB2.out.cell k _ (tots_get _ k hk5)
      have hfz2 := HB2.out.fz k
      rw [hz] at hc2
      have hk5' : (k : Int) < 5 := by omega
      have hw := wrap_in (n := z + xs) (by omega)
      have HB3 := Lib.hid (show Blk 55 ((wr.setCell ⟨G, k, none⟩ (.int .i64 (z + xs))).alloc (.cells #[.int .i64 (k : Int), .int .i64 xs, .int .i64 xr] 42)).drew G (tots (part (m.take (j + 1)))) by
        rw [HP.out, ← tots_set _ k hk5, hz]
        exact ((HB.out.set k _).alloc _).drew)
      have HL3 := Lib.hid (show Below G w ((wr.setCell ⟨G, k, none⟩ (.int .i64 (z + xs))).alloc (.cells #[.int .i64 (k : Int), .int .i64 xs, .int .i64 xr] 42)).drew from
        bdrewN ((below_set HL.out G k _ (Nat.le_refl _)).alloc (by have := (set_grown wr G k (.int .i64 (z + xs))).size; omega) _) 1)
      clear hjm hx hxm hz HI hc hfz
      go_wp2_with fail
      go_region
      go_wp2_with fail
      go_roundw
      case rel => exact ⟨j + 1, by omega, by first | rfl | go_num, HB3, HL3⟩
      case measure => simp [intOf]; omega
    · obtain rfl : j = n := by omega
      have u1 : decide ((j : Int) < (j : Int)) = false := decide_eq_false (by omega)
      have HE := Lib.hid (show Blk 55 wr G (tots (part m)) by have := HB.out; rw [HN.out, List.take_length] at this; exact this)
      go_wp2_with fail
      go_ret
      exact ⟨rfl, HE.out, HL.out⟩
end Go.Proofs.YtmjkjkiogkmmpaaDoor.Rounds
