/- Package vector: tables in memory; hear, unheard, exchange. No statement is proved here. -/
import Derived.Test.YtedhippamfioeaaVec1
import Derived.Test.YtedhippamfioeaaVecSmall
import Derived.Test.YtedhippamfioeaaVecRep
import Derived.StillTailTactics
namespace Go.Proofs.Ytedhippamfioeaa.Vector
open Go.ChangeShapes Go.WideShapes Go.ChangeAt Go.RowKit Go.Proofs.Ytedhippamfioeaa.Kit Go.Proofs.Ytedhippamfioeaa.App Go.Proofs.Ytedhippamfioeaa.Cells Go.Proofs.Ytedhippamfioeaa.Err
set_option linter.unusedVariables false
set_option maxRecDepth 20000
set_option maxHeartbeats 1000000

/-- A row of n numbers fills a block. -/
def Rw (w : World) (b n : Nat) (f : Nat → Int) : Prop := Blk 3 w b (ar n fun j => .int .i64 (f j))
theorem Rw.cell {w : World} {b n : Nat} {f : Nat → Int} (h : Rw w b n f) {j : Nat} (hj : j < n) : w.cell? ⟨b, j, none⟩ = some (.int .i64 (f j)) := Blk.cell h j _ (ar_get _ hj)
theorem Rw.set {w : World} {b n : Nat} {f : Nat → Int} (h : Rw w b n f) (k : Nat) (x : Int) : Rw (w.setCell ⟨b, k, none⟩ (.int .i64 x)) b n fun j => if j = k then x else f j := by
  have := Blk.set h k (.int .i64 x)
  rw [ar_set] at this
  unfold Rw
  rw [show (ar n fun j => Value.int .i64 (if j = k then x else f j)) = ar n fun j => if j = k then .int .i64 x else .int .i64 (f j) from ar_congr fun j _ => by split <;> rfl]
  exact this
theorem Rw.congr {w : World} {b n : Nat} {f g : Nat → Int} (h : Rw w b n f) (hg : ∀ j, j < n → f j = g j) : Rw w b n g := by
  unfold Rw at h ⊢
  rwa [ar_congr (g := fun j => Value.int .i64 (g j)) (fun j hj => by rw [hg j hj])] at h
/-- A row while it is lowered. -/
def low (f g : Nat → Int) (c : Int) (k : Nat) : Nat → Int := fun j => if j < k then min (f j) (c + g j) else f j
theorem hear_any (b b' n : Nat) (f g : Nat → Int) (c : Int) (w : World) (hb : Rw w b n f) (hb' : Rw w b' n g) (hne : b ≠ b') (hf : ∀ j, 0 ≤ f j ∧ f j ≤ 1000) (hg : ∀ j, 0 ≤ g j ∧ g j ≤ 1000) (hc : 1 ≤ c ∧ c ≤ 20) (hn : n ≤ 8) :
    Calls Try.prog 41 #[.slice (some ⟨b, 0, none⟩) n n, .slice (some ⟨b', 0, none⟩) n n, .int .i64 c] w fun e w' => e = .returned (.tuple #[]) ∧ Rw w' b n (fun j => min (f j) (c + g j)) ∧ w.grownBy w' (some b) := by
  have HB := Lib.hid hb
  have HB' := Lib.hid hb'
  have HF := Lib.hid hf
  have HG := Lib.hid hg
  have HN := Lib.hid hne
  clear hb hb' hf hg hne
  go_enter Try.func41, Try.ntmps41
  go_wp2_with fail
  go_loopw [10] (fun iv wr => ∃ k : Nat, k ≤ n ∧ iv = .int .i64 k ∧ Hid (Rw wr b n (low f g c k)) ∧ Hid (w.grownBy wr (some b))) (fun i _ => n - (intOf i).toNat)
  case atStart => exact ⟨0, Nat.zero_le _, rfl, Lib.hid (HB.out.congr fun j _ => by unfold low; rw [if_neg (Nat.not_lt_zero _)]), Lib.hid (grefl w _)⟩
  case round =>
    obtain ⟨k, hk, rfl, HR, HW⟩ := hrel
    by_cases hlt : k < n
    · have t0 : decide ((k : Int) < (n : Int)) = true := decide_eq_true (by omega)
      have c0 := HR.out.cell hlt
      have f0 := Blk.fz HR.out k
      have hbw : Rw wr b' n g := Blk.more HB'.out HW.out (by simp; exact fun e => HN.out e.symm)
      have c1 := hbw.cell hlt
      have b0 := HF.out k
      have b1 := HG.out k
      obtain ⟨e, he⟩ : ∃ e, min (f k) (c + g k) = e := ⟨_, rfl⟩
      have HR2 := Lib.hid (show Rw (wr.setCell ⟨b, k, none⟩ (.int .i64 e)) b n (low f g c (k + 1)) from (HR.out.set k e).congr fun j _ => by
        unfold low
        by_cases h : j = k
        · rw [if_pos h, if_pos (by omega), h, he]
        · rw [if_neg h]
          by_cases h2 : j < k
          · rw [if_pos h2, if_pos (by omega)]
          · rw [if_neg h2, if_neg (by omega)])
      have HW2 := Lib.hid (grown_set HW.out k (.int .i64 e))
      rw [show low f g c k k = f k by unfold low; rw [if_neg (Nat.lt_irrefl _)]] at c0
      obtain ⟨x, hx⟩ : ∃ x, f k = x := ⟨_, rfl⟩
      obtain ⟨y, hy⟩ : ∃ y, g k = y := ⟨_, rfl⟩
      rw [hx, hy] at he
      rw [hx] at c0 b0
      rw [hy] at c1 b1
      obtain ⟨s, hs⟩ : ∃ s, c + y = s := ⟨_, rfl⟩
      rw [hs] at he
      have hwr : IntKind.i64.wrap (c + y) = s := by rw [← hs]; exact wrap_in ⟨by omega, by omega⟩
      have hmn : (if s < x then s else x) = e := by rw [← he]; split <;> omega
      have HS := Lib.hid (And.intro hs he)
      clear hx hy hs he hbw b0 b1 hc
      go_wp2_with fail
      go_roundw
      case rel => exact ⟨k + 1, by omega, by first | rfl | go_num, HR2, HW2⟩
      case measure => simp [intOf]; omega
    · obtain rfl : k = n := by omega
      have t0 : decide ((k : Int) < (k : Int)) = false := decide_eq_false (by omega)
      have HR2 := Lib.hid (HR.out.congr (g := fun j => min (f j) (c + g j)) fun j hj => by unfold low; rw [if_pos hj])
      go_wp2_with fail
      refine bodyPost_end (results_none rfl _ _ _) rfl ?_
      exact ⟨rfl, HR2.out, HW.out⟩

theorem info_rows : (Try.prog.info? 24).map (fun i => (i.zero, i.size, i.bytes)) = some (some (.slice none 0 0), 1, 24) := by kernel_rfl
theorem made_rows (w : World) (n : Nat) (hn : n ≤ 1000) : ∃ w', (Instr.makeSlice 42 (.int .i64 (n : Int)) (.int .i64 (n : Int))).run Try.prog w = .ok (.slice (some ⟨w.heap.size, 0, none⟩) n n) w' ∧ Blk 24 w' w.heap.size (ar n fun _ => .slice none 0 0) ∧ w.grownBy w' none := by
  obtain ⟨i, hi, hz⟩ := Option.map_eq_some_iff.1 info_rows
  simp only [Prod.mk.injEq] at hz
  obtain ⟨w', h1, h2, h3⟩ := run_makeSlice_full (P := Try.prog) (w := w) w.heap.size 42 24 i (.slice none 0 0) 1 Try.underlying42 hi hz.1 hz.2.1 .i64 .i64 n (by omega) (by rw [hz.2.2]; omega) (by unfold maxLen; omega) (Nat.le_refl _)
  refine ⟨w', h1, ?_, h3⟩
  have h4 := blk_of_row h2
  have e2 : (madeCells (Value.cells (.slice none 0 0)) (n * 1)).toList = List.replicate (n * 1) (.slice none 0 0) := toList_madeCells_one _ _
  rw [e2, Nat.mul_one] at h4
  unfold ar
  rw [List.map_const', List.length_range]
  exact h4

/-- A table of the call's own: its headers in block g, its first k rows in blocks q; the rows behind are nil yet. -/
structure Mk (w : World) (base g : Nat) (q : Nat → Nat) (n k : Nat) (f : Tb) : Prop where
  lo : base ≤ g
  hd : Blk 24 w g (ar n fun i => if i < k then .slice (some ⟨q i, 0, none⟩) n n else .slice none 0 0)
  row : ∀ i, i < k → base ≤ q i ∧ q i ≠ g ∧ Rw w (q i) n (f i)
  inj : ∀ i j, i < k → j < k → q i = q j → i = j
structure Tab (w : World) (base g : Nat) (q : Nat → Nat) (n : Nat) (f : Tb) : Prop where
  lo : base ≤ g
  hd : Blk 24 w g (ar n fun i => .slice (some ⟨q i, 0, none⟩) n n)
  row : ∀ i, i < n → base ≤ q i ∧ q i ≠ g ∧ Rw w (q i) n (f i)
  inj : ∀ i j, i < n → j < n → q i = q j → i = j
theorem Mk.tab {w : World} {base g n : Nat} {q : Nat → Nat} {f : Tb} (h : Mk w base g q n n f) : Tab w base g q n f := ⟨h.lo, by
  have := h.hd
  rwa [ar_congr (g := fun i => Value.slice (some ⟨q i, 0, none⟩) n n) (fun i hi => by rw [if_pos hi])] at this, h.row, h.inj⟩
theorem Tab.below {w w' : World} {base g n : Nat} {q : Nat → Nat} {f : Tb} (h : Tab w base g q n f) (hb : Below w.heap.size w w') : Tab w' base g q n f :=
  ⟨h.lo, h.hd.below hb, fun i hi => ⟨(h.row i hi).1, (h.row i hi).2.1, Blk.below (h.row i hi).2.2 hb⟩, h.inj⟩
theorem Tab.drewN {w : World} {base g n : Nat} {q : Nat → Nat} {f : Tb} (h : Tab w base g q n f) (m : Nat) : Tab (w.drewN m) base g q n f := ⟨h.lo, h.hd, h.row, h.inj⟩
theorem Tab.mono {w : World} {base base' g n : Nat} {q : Nat → Nat} {f : Tb} (h : Tab w base g q n f) (hb : base' ≤ base) : Tab w base' g q n f :=
  ⟨Nat.le_trans hb h.lo, h.hd, fun i hi => ⟨Nat.le_trans hb (h.row i hi).1, (h.row i hi).2⟩, h.inj⟩
/-- One row changed. -/
theorem Tab.hear {w w' : World} {base g n x : Nat} {q : Nat → Nat} {f : Tb} {r : Nat → Int} {c : Int} (h : Tab w base g q n f) (hx : x < n) (hg : w.grownBy w' (some (q x))) (hr : Rw w' (q x) n (fun j => min (f x j) (c + r j))) : Tab w' base g q n (hear f x r c) := by
  refine ⟨h.lo, h.hd.more hg (by simp; exact fun e => (h.row x hx).2.1 e.symm), fun i hi => ⟨(h.row i hi).1, (h.row i hi).2.1, ?_⟩, h.inj⟩
  by_cases e : i = x
  · subst e
    exact hr.congr fun j _ => by unfold Vector.hear; rw [if_pos rfl]
  · have := Blk.more (h.row i hi).2.2 hg (by simp; exact fun e2 => e (h.inj i x hi hx e2))
    exact Rw.congr this fun j _ => by unfold Vector.hear; rw [if_neg e]
theorem Mk.step {w w' w2 : World} {base g n k b : Nat} {q : Nat → Nat} (h : Mk w base g q n k un) (hk : k < n) (hb : w.heap.size ≤ b) (hbl : Below w.heap.size w w') (hr : Rw w' b n fun _ => 1000) (hg : g < w.heap.size)
    (hw : w2 = (w'.setCell ⟨g, k, none⟩ (.slice (some ⟨b, 0, none⟩) n n)).setCell ⟨b, k, none⟩ (.int .i64 0)) : Mk w2 base g (fun i => if i = k then b else q i) n (k + 1) un := by
  subst hw
  have hgb : g ≠ b := by omega
  have hq : ∀ i, i < k → q i < w.heap.size := fun i hi => Blk.lt (h.row i hi).2.2
  refine ⟨h.lo, ?_, fun i hi => ?_, fun i j hi hj e => ?_⟩
  · have h1 := ((h.hd.below hbl).set k (.slice (some ⟨b, 0, none⟩) n n)).other b k (.int .i64 0) hgb
    rw [ar_set] at h1
    rwa [ar_congr (g := fun i => if i < k + 1 then Value.slice (some ⟨if i = k then b else q i, 0, none⟩) n n else .slice none 0 0) (fun i _ => by
      by_cases e : i = k
      · rw [if_pos e, if_pos (by omega), if_pos e]
      · rw [if_neg e]
        by_cases h2 : i < k
        · rw [if_pos h2, if_pos (by omega), if_neg e]
        · rw [if_neg h2, if_neg (by omega)])] at h1
  · by_cases e : i = k
    · simp only [if_pos e]
      refine ⟨by have := h.lo; omega, by omega, ?_⟩
      have h1 : Rw (w'.setCell ⟨g, k, none⟩ (.slice (some ⟨b, 0, none⟩) n n)) b n fun _ => 1000 := Blk.other hr g k _ (by omega)
      refine (h1.set k 0).congr fun j _ => ?_
      unfold un
      rw [e]
      by_cases e2 : j = k
      · rw [if_pos e2, if_pos e2.symm]
      · rw [if_neg e2, if_neg (fun e3 => e2 e3.symm)]
    · simp only [if_neg e]
      have hi2 : i < k := by omega
      obtain ⟨r1, r2, r3⟩ := h.row i hi2
      have := hq i hi2
      exact ⟨r1, r2, Blk.other (Blk.other (Blk.below r3 hbl) g k _ r2) b k _ (by omega)⟩
  · by_cases e1 : i = k
    · by_cases e2 : j = k
      · omega
      · simp only [if_pos e1, if_neg e2] at e
        have := hq j (by omega)
        omega
    · by_cases e2 : j = k
      · simp only [if_neg e1, if_pos e2] at e
        have := hq i (by omega)
        omega
      · simp only [if_neg e1, if_neg e2] at e
        exact h.inj i j (by omega) (by omega) e
theorem one_new (w : World) : (w.alloc (.cells #[.int .i64 1000] 3)).cell? ⟨w.heap.size, 0, none⟩ = some (.int .i64 1000) := by
  have h := alloc_new w (.cells #[.int .i64 1000] 3)
  unfold World.cell?; rw [h]; rfl
theorem unheard_any (n : Nat) (h1 : 1 ≤ n) (h8 : n ≤ 8) (w : World) :
    Calls Try.prog 31 #[.int .i64 (n : Int)] w fun e w' => ∃ q, e = .returned (.slice (some ⟨w.heap.size, 0, none⟩) n n) ∧ Tab w' w.heap.size w.heap.size q n un ∧ Below w.heap.size w w' := by
  obtain ⟨w2, hmk, hb2, hg2⟩ := made_rows w n (by omega)
  have HB2 := Lib.hid (show Mk w2 w.heap.size w.heap.size (fun _ => 0) n 0 un from ⟨Nat.le_refl _, by
    rwa [ar_congr (f := fun i => if i < 0 then Value.slice (some ⟨0, 0, none⟩) n n else .slice none 0 0) (g := fun _ => .slice none 0 0) (fun i hi => by rw [if_neg (Nat.not_lt_zero _)])], fun i hi => absurd hi (Nat.not_lt_zero _), fun i j hi => absurd hi (Nat.not_lt_zero _)⟩)
  have HW2 := Lib.hid (show Below w.heap.size w w2 from (Below.refl w.heap.size w).trans ⟨hg2.os, hg2.tape, hg2.output, hg2.size, fun j hj => hg2.block j hj (by simp)⟩)
  have RE := Lib.hid (fun b W => repeat_any b n 1000 h1 h8 W)
  clear hb2 hg2
  obtain ⟨z, hz⟩ : ∃ z, w.heap.size = z := ⟨_, rfl⟩
  have HZ := Lib.hid hz
  rw [hz] at hmk HB2 HW2 ⊢
  clear hz
  go_enter Try.func31, Try.ntmps31
  go_wp2_with fail
  clear hmk
  go_loopw [9] (fun kv wr => ∃ k : Nat, k ≤ n ∧ kv = .int .i64 k ∧ Hid (∃ q, Mk wr z z q n k un) ∧ Hid (Below z w wr)) (fun k _ => n - (intOf k).toNat)
  case atStart => exact ⟨0, Nat.zero_le _, rfl, Lib.hid ⟨_, HB2.out⟩, HW2⟩
  case round =>
    obtain ⟨k, hk, rfl, HM, HW⟩ := hrel
    clear HB2 HW2
    by_cases hlt : k < n
    · have t0 : decide ((k : Int) < (n : Int)) = true := decide_eq_true (by omega)
      have hlt' : (k : Int) < (n : Int) := by omega
      have C := Lib.hid (RE.out wr.heap.size (wr.alloc (.cells #[.int .i64 1000] 3)) (by simp) (one_new wr))
      have hsz : (wr.alloc (.cells #[.int .i64 1000] 3)).heap.size = wr.heap.size + 1 := by simp
      obtain ⟨b, hb⟩ : ∃ b, (wr.alloc (.cells #[.int .i64 1000] 3)).heap.size = b := ⟨_, rfl⟩
      rw [hb] at C hsz
      have HBB := Lib.hid (And.intro hb hsz)
      clear hb hsz
      go_wp2_with fail
      refine C.out.mono ?_; rintro e w3 ⟨rfl, hr, hbl⟩
      have HBL := Lib.hid (show Below wr.heap.size wr w3 from (balloc (brefl wr) _).trans (hbl.mono (by have := HBB.out; omega)))
      have HRW := Lib.hid (show Rw w3 b n fun _ => 1000 from hr)
      clear hr hbl C
      have zlt : z < wr.heap.size := HM.out.elim fun q h => Blk.lt h.hd
      have hzb : z ≠ b := by have := HBB.out; omega
      have c0 : w3.cell? ⟨z, k, none⟩ = some (.slice none 0 0) := by
        obtain ⟨q, hm⟩ := HM.out
        have := (hm.hd.below HBL.out).cell k _ (ar_get _ hlt)
        rwa [if_neg (Nat.lt_irrefl k)] at this
      have f0 : w3.frozen? ⟨z, k, none⟩ = false := HM.out.elim fun q h => (h.hd.below HBL.out).fz k
      have hr2 : Rw (w3.setCell ⟨z, k, none⟩ (.slice (some ⟨b, 0, none⟩) n n)) b n fun _ => 1000 := Blk.other HRW.out z k _ (fun e => hzb e.symm)
      have c2 := hr2.cell hlt
      have f2 := Blk.fz hr2 k
      have c1 : (w3.setCell ⟨z, k, none⟩ (.slice (some ⟨b, 0, none⟩) n n)).cell? ⟨z, k, none⟩ = some (.slice (some ⟨b, 0, none⟩) n n) := by
        obtain ⟨q, hm⟩ := HM.out
        have h := (hm.hd.below HBL.out).set k (.slice (some ⟨b, 0, none⟩) n n)
        rw [ar_set] at h
        have := h.cell k _ (ar_get _ hlt)
        rwa [if_pos rfl] at this
      have HM2 := Lib.hid (show ∀ W, W = (w3.setCell ⟨z, k, none⟩ (.slice (some ⟨b, 0, none⟩) n n)).setCell ⟨b, k, none⟩ (.int .i64 0) → ∃ q, Mk W z z q n (k + 1) un from fun W hW => HM.out.elim fun q h => ⟨_, h.step hlt (by have := HBB.out; omega) HBL.out HRW.out zlt hW⟩)
      have HW2 := Lib.hid (show Below z w ((w3.setCell ⟨z, k, none⟩ (.slice (some ⟨b, 0, none⟩) n n)).setCell ⟨b, k, none⟩ (.int .i64 0)) from
        below_set (below_set (HW.out.trans (HBL.out.mono (by have := HBB.out; omega))) z k _ (Nat.le_refl _)) b k _ (by have := HBB.out; omega))
      clear hr2
      go_wp2_with fail
      go_roundw
      case rel => exact ⟨k + 1, by omega, by first | rfl | go_num, Lib.hid (HM2.out _ rfl), HW2⟩
      case measure => simp [intOf]; omega
    · obtain rfl : k = n := by omega
      have t0 : decide ((k : Int) < (k : Int)) = false := decide_eq_false (by omega)
      have HF := Lib.hid (show ∃ q, Tab wr z z q k un from HM.out.elim fun q h => ⟨q, h.tab⟩)
      go_wp2_with fail
      go_ret
      exact HF.out.elim fun q h => ⟨q, rfl, h, HW.out⟩

theorem hear_b {t : Tb} {x : Nat} {f : Nat → Int} {c : Int} (h : ∀ i j, 0 ≤ t i j ∧ t i j ≤ 1000) (hf : ∀ j, 0 ≤ f j) (hc : 0 ≤ c) (i j : Nat) : 0 ≤ hear t x f c i j ∧ hear t x f c i j ≤ 1000 := by
  have := h i j
  have := hf j
  unfold hear
  split <;> omega
theorem un_b (i j : Nat) : 0 ≤ un i j ∧ un i j ≤ 1000 := by unfold un; split <;> omega
theorem part_b {n : Nat} {ls : List Lk} (g : Good n ls) {f : Tb} (hf : ∀ i j, 0 ≤ f i j ∧ f i j ≤ 1000) : ∀ k, k ≤ ls.length → ∀ i j, 0 ≤ part ls f k i j ∧ part ls f k i j ≤ 1000
  | 0, _ => un_b
  | k + 1, hk => by
    have hc := (g.all _ (lk_mem (show k < ls.length by omega))).2.2.1
    exact hear_b (hear_b (part_b g hf k (by omega)) (fun j => (hf _ j).1) (by omega)) (fun j => (hf _ j).1) (by omega)
theorem exchange_any (base gb n : Nat) (qb : Nat → Nat) (f : Tb) (p : Option Addr) (cap m : Nat) (ls : List Lk) (w : World) (g : Good n ls) (hm : m = ls.length) (hi : CI layL w p cap ls) (hb : Tab w base gb qb n f) (hf : ∀ i j, 0 ≤ f i j ∧ f i j ≤ 1000) :
    Calls Try.prog 32 #[.slice (some ⟨gb, 0, none⟩) n n, .slice p m cap] w fun e w' => ∃ q, e = .returned (.slice (some ⟨w.heap.size, 0, none⟩) n n) ∧ Tab w' w.heap.size w.heap.size q n (round ls f) ∧ Below w.heap.size w w' := by
  have hlen := hi.len_le
  rw [← hm] at hlen
  have hn8 := g.up
  have hn1 := g.lo
  have U := Lib.hid (unheard_any n g.lo g.up w)
  have G := Lib.hid g
  have HM := Lib.hid hm
  have HI := Lib.hid hi
  have HB := Lib.hid hb
  have HF := Lib.hid hf
  obtain ⟨z, hz⟩ : ∃ z, w.heap.size = z := ⟨_, rfl⟩
  have HZ := Lib.hid hz
  have HGB := Lib.hid (show gb < z from by rw [← hz]; exact Blk.lt hb.hd)
  have HQB := Lib.hid (show ∀ i, i < n → qb i < z from fun i hi => by rw [← hz]; exact Blk.lt (hb.row i hi).2.2)
  rw [hz] at U ⊢
  clear g hm hi hb hf hz
  go_enter Try.func32, Try.ntmps32
  go_wp2_with fail
  refine U.out.mono ?_; rintro e w1 ⟨q, rfl, ht, hbl⟩
  have HT := Lib.hid ht
  have HBL := Lib.hid hbl
  clear ht hbl U
  go_wp2_with fail
  go_loopw [13] (fun kv wr => ∃ k : Nat, k ≤ m ∧ kv = .int .i64 k ∧ Hid (∃ q, Tab wr z z q n (part ls f k)) ∧ Hid (Below z w wr)) (fun k _ => m - (intOf k).toNat)
  case atStart => exact ⟨0, Nat.zero_le _, rfl, Lib.hid ⟨_, HT.out⟩, HBL⟩
  case round =>
    obtain ⟨k, hk, rfl, HT2, HBL2⟩ := hrel
    clear HT HBL
    by_cases hlt : k < m
    · have t0 : decide ((k : Int) < (m : Int)) = true := decide_eq_true (by omega)
      have hkl : k < ls.length := by rw [← HM.out]; exact hlt
      obtain ⟨bl, off, rfl, hbl, hat⟩ := links_at HI.out (by omega)
      obtain ⟨x0, x1, x2⟩ := hat wr (by rw [HZ.out]; exact HBL2.out) k hkl
      have hgd := G.out.all _ (lk_mem hkl)
      obtain ⟨x, hx⟩ : ∃ x : Nat, (lk ls k).a = (x : Int) := ⟨(lk ls k).a.toNat, by omega⟩
      obtain ⟨y, hy⟩ : ∃ y : Nat, (lk ls k).b = (y : Int) := ⟨(lk ls k).b.toNat, by omega⟩
      obtain ⟨c, hc⟩ : ∃ c, (lk ls k).c = c := ⟨_, rfl⟩
      have HSP := Lib.hid (show part ls f (k + 1) = hear (hear (part ls f k) x (f y) c) y (f x) c by
        show step f (part ls f k) (lk ls k) = _
        unfold step
        rw [hx, hy, hc, Int.toNat_natCast, Int.toNat_natCast])
      rw [hx, hy, hc] at hgd
      rw [hx] at x0
      rw [hy] at x1
      rw [hc] at x2
      obtain ⟨⟨_, hxn⟩, ⟨_, hyn⟩, hc1, hxy⟩ := hgd
      have hxn' : x < n := by omega
      have hyn' : y < n := by omega
      have BX := Lib.hid (BoxL.new wr ⟨x, y, c⟩ 38)
      have HB1 := Lib.hid (balloc (brefl wr) (.cells #[.int .i64 x, .int .i64 y, .int .i64 c] 38))
      have HKL := Lib.hid hkl
      clear hat hx hy hc hkl hbl
      go_wp2_with fail
      obtain ⟨B, hB⟩ : ∃ B, wr.heap.size = B := ⟨_, rfl⟩
      obtain ⟨W1, hW1⟩ : ∃ W, wr.alloc (.cells #[.int .i64 x, .int .i64 y, .int .i64 c] 38) = W := ⟨_, rfl⟩
      rw [hW1] at BX HB1 ⊢
      obtain ⟨q2, ht2⟩ := HT2.out
      have HT3 := Lib.hid (ht2.below HB1.out)
      have HQ := Lib.hid (show ∀ i, i < n → q2 i < B from fun i hi => by rw [← hB]; exact Blk.lt (ht2.row i hi).2.2)
      have HBL3 := Lib.hid (show Below z w W1 from HBL2.out.trans (HB1.out.mono (by have := HBL2.out.size; have := HZ.out; omega)))
      rw [hB] at BX ⊢
      clear ht2 HT2 x0 x1 x2 hW1 HB1
      obtain ⟨bl, b0, b1, b2⟩ := BX.out
      simp only at b0 b1 b2
      have h0 := HT3.out.hd.cell x _ (ar_get _ hxn')
      have HBB := Lib.hid (show Tab W1 base gb qb n f from HB.out.below (by rw [HZ.out]; exact HBL3.out))
      have h1 := HBB.out.hd.cell y _ (ar_get _ hyn')
      have C := Lib.hid (hear_any (q2 x) (qb y) n (part ls f k x) (f y) c W1.drew (HT3.out.row x hxn').2.2 (HBB.out.row y hyn').2.2 (by have := HQB.out y hyn'; have := (HT3.out.row x hxn').1; omega) (fun j => part_b G.out HF.out k (Nat.le_of_lt HKL.out) x j) (fun j => HF.out y j) hc1 hn8)
      go_still_tail 12, (by kernel_rfl)
      change wpList _ _ _ _ _ W1.drew
      go_wp2_with fail
      refine C.out.mono ?_; rintro e w8 ⟨rfl, hr8, hg8⟩
      have HT8 := Lib.hid (show Tab w8 z z q2 n (hear (part ls f k) x (f y) c) from Tab.hear (HT3.out.drewN 1) hxn' hg8 hr8)
      have HBL8 := Lib.hid (show Below z w w8 from gbelow (below_drewN HBL3.out 1) (by rw [HZ.out]; exact Nat.le_refl _) hg8 (HT3.out.row x hxn').1)
      have HBB8 := Lib.hid (show Tab w8 base gb qb n f from HB.out.below (by rw [HZ.out]; exact HBL8.out))
      have BX8 := Lib.hid (show BoxL w8 B ⟨x, y, c⟩ from BoxL.more (w := W1.drew) BX.out hg8 (by have := HQ.out x hxn'; omega))
      clear bl b0 b1 b2 h0 h1 C HT3 HBL3 HBB hr8 hg8
      obtain ⟨bl, b0, b1, b2⟩ := BX8.out
      simp only at b0 b1 b2
      have h0 := HT8.out.hd.cell y _ (ar_get _ hyn')
      have h1 := HBB8.out.hd.cell x _ (ar_get _ hxn')
      have hgd := G.out.all _ (lk_mem HKL.out)
      have C := Lib.hid (hear_any (q2 y) (qb x) n (hear (part ls f k) x (f y) c y) (f x) c w8.drew (HT8.out.row y hyn').2.2 (HBB8.out.row x hxn').2.2 (by have := HQB.out x hxn'; have := (HT8.out.row y hyn').1; omega) (fun j => hear_b (part_b G.out HF.out k (Nat.le_of_lt HKL.out)) (fun j => (HF.out y j).1) (by omega) y j) (fun j => HF.out x j) hc1 hn8)
      clear hgd
      go_wp2_with fail
      go_still_tail 12, (by kernel_rfl)
      change wpList _ _ _ _ _ w8.drew
      go_wp2_with fail
      refine C.out.mono ?_; rintro e w9 ⟨rfl, hr9, hg9⟩
      have HT9 := Lib.hid (show Tab w9 z z q2 n (part ls f (k + 1)) by rw [HSP.out]; exact Tab.hear (HT8.out.drewN 1) hyn' hg9 hr9)
      have HBL9 := Lib.hid (show Below z w w9 from gbelow (below_drewN HBL8.out 1) (by rw [HZ.out]; exact Nat.le_refl _) hg9 (HT8.out.row y hyn').1)
      clear bl b0 b1 b2 h0 h1 C hr9 hg9
      go_wp2_with fail
      go_roundw
      case rel => exact ⟨k + 1, by omega, by first | rfl | go_num, Lib.hid ⟨_, HT9.out⟩, HBL9⟩
      case measure => simp [intOf]; omega
    · obtain rfl : k = m := by omega
      have t0 : decide ((k : Int) < (k : Int)) = false := decide_eq_false (by omega)
      have HF2 := Lib.hid (show ∃ q, Tab wr z z q n (round ls f) by
        have := HT2.out
        rwa [show part ls f k = round ls f by rw [HM.out]; rfl] at this)
      go_wp2_with fail
      go_ret
      exact HF2.out.elim fun q h => ⟨q, rfl, h, HBL2.out⟩
end Go.Proofs.Ytedhippamfioeaa.Vector
