/- Package vector: Rounds. No statement is proved here. -/
import Derived.Test.YtedhippamfioeaaVecTab
import Derived.Test.YtedhippamfioeaaRows0
namespace Go.Proofs.Ytedhippamfioeaa.Vector
open Go.ChangeShapes Go.WideShapes Go.ChangeAt Go.RowKit Go.Proofs.Ytedhippamfioeaa.Kit Go.Proofs.Ytedhippamfioeaa.App Go.Proofs.Ytedhippamfioeaa.Cells Go.Proofs.Ytedhippamfioeaa.Err
set_option linter.unusedVariables false
set_option maxRecDepth 20000
set_option maxHeartbeats 1000000

theorem Rw.ints {w : World} {b n : Nat} {f : Nat → Int} (h : Rw w b n f) (hn : n ≤ 1000) (hf : ∀ j, j < n → 0 ≤ f j ∧ f j ≤ 1000) : Ints w (some ⟨b, 0, none⟩) n (rw1 n f) := by
  refine ⟨by rw [rw1_len]; exact Nat.le_refl _, by unfold maxLen; omega, fun j => ?_, fun h0 => ⟨b, 0, rfl, Blk.lt h, fun j hj => ?_⟩⟩
  · by_cases hj : j < n
    · rw [rw1_get n f hj]; exact wf_of (hf j hj)
    · rw [List.getElem?_eq_none (by rw [rw1_len]; omega)]; exact wf_of ⟨by decide, by decide⟩
  · rw [rw1_len] at hj
    rw [rw1_get n f hj, Nat.zero_add]
    exact h.cell hj
theorem Tab.rows {w : World} {base g n : Nat} {q : Nat → Nat} {f : Tb} (h : Tab w base g q n f) (hn : n ≤ 1000) (hf : ∀ i j, 0 ≤ f i j ∧ f i j ≤ 1000) : RowsI w (some ⟨g, 0, none⟩) n (rows n f) := by
  refine ⟨by rw [rows_len]; exact Nat.le_refl _, by unfold maxLen; omega, fun h0 => ⟨g, 0, rfl, Blk.lt h.hd, fun j hj => ?_⟩⟩
  rw [rows_len] at hj
  rw [rows_get n f hj, rw1_len]
  refine ⟨some ⟨q j, 0, none⟩, n, ?_, Rw.ints (h.row j hj).2.2 hn fun i _ => hf j i⟩
  rw [Nat.zero_add]
  exact h.hd.cell j _ (ar_get _ hj)
/-- What Rounds finds wrong. -/
def code2 (n : Int) (ls : List Lk) (r : Int) : Int := if code n ls = 0 then (if r < 0 ∨ 20 < r then 1 else 0) else code n ls
theorem code2_zero {n : Int} {ls : List Lk} {r : Int} : code2 n ls r = 0 ↔ code n ls = 0 ∧ 0 ≤ r ∧ r ≤ 20 := by
  unfold code2
  by_cases h : code n ls = 0
  · rw [if_pos h]
    by_cases h2 : r < 0 ∨ 20 < r
    · rw [if_pos h2]; exact ⟨fun h => by omega, fun h => by omega⟩
    · rw [if_neg h2]; exact ⟨fun _ => ⟨h, by omega, by omega⟩, fun _ => rfl⟩
  · rw [if_neg h]; exact ⟨fun h2 => absurd h2 h, fun h2 => absurd h2.1 h⟩
theorem rounds_good (n r : Nat) (p : Option Addr) (cap m : Nat) (ls : List Lk) (w : World) (g : Good n ls) (hm : m = ls.length) (hi : CI layL w p cap ls) (hr : r ≤ 20) :
    Calls Try.prog 15 #[.int .i64 (n : Int), .slice p m cap, .int .i64 (r : Int)] w fun e w' => ∃ b, e = .returned (.tuple #[.slice (some ⟨b, 0, none⟩) n n, .nilIface]) ∧ RowsI w' (some ⟨b, 0, none⟩) n (rows n (D ls r)) ∧ Below w.heap.size w w' := by
  have hlen := hi.len_le
  rw [← hm] at hlen
  have C := Lib.hid (check_any n p cap m ls w hm hi 0 (code_good g))
  rw [er_0] at C
  have U := Lib.hid (fun W => unheard_any n g.lo g.up W)
  have HG := Lib.hid g
  have HM := Lib.hid hm
  have HI := Lib.hid hi
  have t0 : decide ((r : Int) < 0) = false := decide_eq_false (by omega)
  have t1 : decide ((r : Int) > 20) = false := decide_eq_false (by omega)
  clear g hm hi
  go_enter Try.func15, Try.ntmps15
  go_wp2_with fail
  refine C.out.mono ?_; rintro e w1 ⟨rfl, hb1⟩
  have HB1 := Lib.hid hb1
  clear hb1 C
  go_wp2_with fail
  refine (U.out w1).mono ?_; rintro e w2 ⟨q, rfl, ht, hb2⟩
  have HS := Lib.hid (show ∃ q, Tab w2 w.heap.size w1.heap.size q n (D ls 0) from ⟨q, ht.mono HB1.out.size⟩)
  have HB2 := Lib.hid (bcall HB1.out hb2)
  clear ht hb2 U
  generalize w1.heap.size = b0 at HS ⊢
  go_wp2_with fail
  go_loopw [9, 26] (fun tv kv wr => ∃ k b : Nat, k ≤ r ∧ kv = .int .i64 k ∧ tv = .slice (some ⟨b, 0, none⟩) n n ∧ Hid (∃ q, Tab wr w.heap.size b q n (D ls k)) ∧ Hid (Below w.heap.size w wr)) (fun _ k _ => r - (intOf k).toNat)
  case atStart => exact ⟨0, b0, Nat.zero_le _, rfl, rfl, HS, HB2⟩
  case round =>
    obtain ⟨k, b, hk, rfl, rfl, HT, HB⟩ := hrel
    clear HS HB2
    by_cases hlt : k < r
    · have u0 : decide ((k : Int) < (r : Int)) = true := decide_eq_true (by omega)
      obtain ⟨q, ht⟩ := HT.out
      have E := Lib.hid (exchange_any w.heap.size b n q (D ls k) p cap m ls wr HG.out HM.out (HI.out.below HB.out) ht (fun i j => D_b HG.out k i j))
      clear ht
      go_wp2_with fail
      refine E.out.mono ?_; rintro e w3 ⟨q2, rfl, ht3, hb3⟩
      have HT3 := Lib.hid (show ∃ q, Tab w3 w.heap.size wr.heap.size q n (D ls (k + 1)) from ⟨q2, ht3.mono HB.out.size⟩)
      have HB3 := Lib.hid (bcall HB.out hb3)
      clear ht3 hb3 E
      go_wp2_with fail
      go_roundw
      case rel => exact ⟨k + 1, wr.heap.size, by omega, by first | rfl | go_num, rfl, HT3, HB3⟩
      case measure => simp [intOf]; omega
    · obtain rfl : k = r := by omega
      have u0 : decide ((k : Int) < (k : Int)) = false := decide_eq_false (by omega)
      have HR := Lib.hid (show RowsI wr (some ⟨b, 0, none⟩) n (rows n (D ls k)) from HT.out.elim fun q h => h.rows (by have := HG.out.up; omega) (fun i j => D_b HG.out k i j))
      go_wp2_with fail
      go_ret2
      exact ⟨b, rfl, HR.out, HB.out⟩
theorem rounds_bad (n r : Int) (p : Option Addr) (cap m : Nat) (ls : List Lk) (w : World) (hm : m = ls.length) (hi : CI layL w p cap ls) (c : Int) (hc : code2 n ls r = c) (h0 : c ≠ 0) :
    Calls Try.prog 15 #[.int .i64 n, .slice p m cap, .int .i64 r] w fun e w' => e = .returned (.tuple #[.slice none 0 0, er c]) ∧ Below w.heap.size w w' := by
  have hlen := hi.len_le
  rw [← hm] at hlen
  obtain ⟨d, hd⟩ : ∃ d, code n ls = d := ⟨_, rfl⟩
  have C := Lib.hid (check_any n p cap m ls w hm hi d hd)
  unfold code2 at hc
  rw [hd] at hc
  clear hd hm hi
  by_cases h1 : d = 0
  · rw [if_pos h1] at hc
    rw [h1, er_0] at C
    have h2 : r < 0 ∨ 20 < r := by
      rcases Classical.em (r < 0 ∨ 20 < r) with h | h
      · exact h
      · rw [if_neg h] at hc; exact absurd hc.symm h0
    rw [if_pos h2] at hc
    subst hc
    rw [er_1]
    clear h0 h1
    rcases h2 with h2 | h2
    · have t0 : decide (r < 0) = true := decide_eq_true h2
      clear h2
      go_enter Try.func15, Try.ntmps15
      go_wp2_with fail
      refine C.out.mono ?_; rintro e w1 ⟨rfl, hb1⟩
      have HB1 := Lib.hid hb1
      clear hb1 C
      go_wp2_with fail
      go_ret2
      exact ⟨rfl, HB1.out⟩
    · have t0 : decide (r < 0) = false := decide_eq_false (by omega)
      have t1 : decide (r > 20) = true := decide_eq_true h2
      clear h2
      go_enter Try.func15, Try.ntmps15
      go_wp2_with fail
      refine C.out.mono ?_; rintro e w1 ⟨rfl, hb1⟩
      have HB1 := Lib.hid hb1
      clear hb1 C
      go_wp2_with fail
      go_ret2
      exact ⟨rfl, HB1.out⟩
  · rw [if_neg h1] at hc
    subst hc
    rw [er_ne h1] at C ⊢
    clear h0 h1
    go_enter Try.func15, Try.ntmps15
    go_wp2_with fail
    refine C.out.mono ?_; rintro e w1 ⟨rfl, hb1⟩
    have HB1 := Lib.hid hb1
    clear hb1 C
    go_wp2_with fail
    go_ret2
    exact ⟨rfl, HB1.out⟩
/-- What Rounds answers. -/
def out (n : Int) (ls : List Lk) (r : Int) (c : Int) : List (List Int) := if c = 0 then rows n.toNat (D ls r.toNat) else []
theorem rounds_any (n r : Int) (p : Option Addr) (cap m : Nat) (ls : List Lk) (w : World) (hm : m = ls.length) (hi : CI layL w p cap ls) (c : Int) (hc : code2 n ls r = c) (L : List (List Int)) (hL : L = out n ls r c) (N : Nat) (hN : N = L.length) :
    Calls Try.prog 15 #[.int .i64 n, .slice p m cap, .int .i64 r] w fun e w' => ∃ q k, e = .returned (.tuple #[.slice q N k, er c]) ∧ RowsI w' q k L ∧ Below w.heap.size w w' := by
  unfold out at hL
  by_cases h0 : c = 0
  · rw [if_pos h0] at hL
    rw [h0] at hc
    obtain ⟨h1, h2, h3⟩ := code2_zero.1 hc
    obtain ⟨k, rfl, g⟩ := good_of h1
    obtain ⟨j, rfl⟩ : ∃ j : Nat, r = (j : Int) := ⟨r.toNat, by omega⟩
    rw [Int.toNat_natCast, Int.toNat_natCast] at hL
    refine (rounds_good k j p cap m ls w g hm hi (by omega)).mono ?_
    rintro e w' ⟨b, rfl, hr, hb⟩
    rw [hN, hL, rows_len, h0]
    exact ⟨_, _, rfl, hr, hb⟩
  · rw [if_neg h0] at hL
    refine (rounds_bad n r p cap m ls w hm hi c hc h0).mono ?_
    rintro e w' ⟨rfl, hb⟩
    rw [hN, hL]
    exact ⟨_, _, rfl, RowsI.nil _, hb⟩

end Go.Proofs.Ytedhippamfioeaa.Vector
