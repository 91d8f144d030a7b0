/- Package rtt: a timer in memory, and the contracts of its methods. No statement is proved here. -/
import Derived.Test.YtjknojfdlpgicaaBase
import Derived.Test.YtjknojfdlpgicaaRttMath
import Derived.Test.YtjknojfdlpgicaaOnce
import Derived.Deep.RegionLaw
namespace Go.Proofs.Ytjknojfdlpgicaa.Rtt
open Go.ChangeShapes Go.WideShapes Go.ChangeAt Go.RowKit Go.Proofs.Ytjknojfdlpgicaa.Kit Go.Proofs.Ytjknojfdlpgicaa.App Go.Proofs.Ytjknojfdlpgicaa.RttMath
set_option linter.unusedVariables false
set_option maxRecDepth 20000
set_option maxHeartbeats 1000000

/-- A timer lies in block g. -/
def Tm (w : World) (g : Nat) (s p W : Int) : Prop := w.heap[g]? = some (.cells #[.int .i64 s, .int .i64 p, .int .i64 W] 49)
theorem Tm.cells {w : World} {g : Nat} {s p W : Int} (h : Tm w g s p W) : w.cell? ⟨g, 0, none⟩ = some (.int .i64 s) ∧ w.cell? ⟨g, 1, none⟩ = some (.int .i64 p) ∧ w.cell? ⟨g, 2, none⟩ = some (.int .i64 W) ∧ w.frozen? ⟨g, 0, none⟩ = false ∧ w.frozen? ⟨g, 1, none⟩ = false ∧ w.frozen? ⟨g, 2, none⟩ = false := by
  unfold Tm at h
  refine ⟨?_, ?_, ?_, ?_, ?_, ?_⟩
  all_goals first | (unfold World.cell?; rw [h]; rfl) | (unfold World.frozen?; rw [h]; rfl)
theorem Tm.lt {w : World} {g : Nat} {s p W : Int} (h : Tm w g s p W) : g < w.heap.size := (Array.getElem?_eq_some_iff.1 h).1
theorem Tm.more {w w' : World} {g : Nat} {s p W : Int} {row : Option Nat} (h : Tm w g s p W) (hg : w.grownBy w' row) (hne : some g ≠ row) : Tm w' g s p W := (hg.block g h.lt hne).trans h
theorem Tm.below {w w' : World} {g : Nat} {s p W : Int} (h : Tm w g s p W) (hb : Below w.heap.size w w') : Tm w' g s p W := (hb.block g h.lt).trans h
theorem Tm.alloc {w : World} {g : Nat} {s p W : Int} (h : Tm w g s p W) (o : Obj) : Tm (w.alloc o) g s p W := h.more (World.grownBy_alloc w o none) (by simp)
theorem Tm.drewN {w : World} {g : Nat} {s p W : Int} (h : Tm w g s p W) (n : Nat) : Tm (w.drewN n) g s p W := h
theorem Tm.drew {w : World} {g : Nat} {s p W : Int} (h : Tm w g s p W) : Tm w.drew g s p W := h
theorem Tm.set0 {w : World} {g : Nat} {s p W : Int} (h : Tm w g s p W) (k : Int) : Tm (w.setCell ⟨g, 0, none⟩ (.int .i64 k)) g k p W := by
  unfold Tm at h ⊢
  simp [World.setCell, Array.getElem?_modify, h]
theorem Tm.set1 {w : World} {g : Nat} {s p W : Int} (h : Tm w g s p W) (k : Int) : Tm (w.setCell ⟨g, 1, none⟩ (.int .i64 k)) g s k W := by
  unfold Tm at h ⊢
  simp [World.setCell, Array.getElem?_modify, h]
theorem Tm.set2 {w : World} {g : Nat} {s p W : Int} (h : Tm w g s p W) (k : Int) : Tm (w.setCell ⟨g, 2, none⟩ (.int .i64 k)) g s p k := by
  unfold Tm at h ⊢
  simp [World.setCell, Array.getElem?_modify, h]
theorem Tm.other {w : World} {g : Nat} {s p W : Int} (h : Tm w g s p W) (b k : Nat) (v : Value) (hne : g ≠ b) : Tm (w.setCell ⟨b, k, none⟩ v) g s p W := by
  unfold Tm at h ⊢
  simp only [World.setCell, Array.getElem?_modify]
  rw [if_neg (fun e => hne e.symm)]
  exact h
theorem set_grown (w : World) (g k : Nat) (v : Value) : w.grownBy (w.setCell ⟨g, k, none⟩ v) (some g) :=
  ⟨rfl, rfl, rfl, by simp [World.setCell], fun j hj hne => by
    simp only [World.setCell, Array.getElem?_modify]
    rw [if_neg (fun e => hne (by rw [e]))]⟩
theorem grown_set {w w' : World} {g : Nat} (h : w.grownBy w' (some g)) (k : Nat) (v : Value) : w.grownBy (w'.setCell ⟨g, k, none⟩ v) (some g) :=
  ⟨h.os, h.tape, h.output, by have := h.size; simp [World.setCell]; omega, fun j hj hne => by
    rw [← h.block j hj hne]
    simp only [World.setCell, Array.getElem?_modify]
    rw [if_neg (fun e => hne (by rw [e]))]⟩
theorem grown_drewN {w w' : World} {r : Option Nat} (h : w.grownBy w' r) (n : Nat) : w.grownBy (w'.drewN n) r := ⟨h.os, h.tape, h.output, h.size, h.block⟩
theorem grown_drew {w w' : World} {r : Option Nat} (h : w.grownBy w' r) : w.grownBy w'.drew r := ⟨h.os, h.tape, h.output, h.size, h.block⟩
theorem grefl (w : World) (r : Option Nat) : w.grownBy w r := ⟨rfl, rfl, rfl, Nat.le_refl _, fun _ _ _ => rfl⟩
theorem wrap_in {n : Int} (h : -9223372036854775808 ≤ n ∧ n ≤ 9223372036854775807) : IntKind.i64.wrap n = n := by rw [IntKind.wrap_i64]; omega
/-- The program's error of a code: nothing at 0. -/
def er (e : Int) : Value := if e = 0 then .nilIface else .iface 46 (.int .i64 e)

theorem er_1 : er 1 = .iface 46 (.int .i64 1) := rfl
theorem er_0 : er 0 = .nilIface := rfl
theorem new_bad (n : Int) (w : World) (h : ¬ (1 ≤ n ∧ n ≤ 100000)) : Calls Try.prog 12 #[.int .i64 n] w fun e w' => e = .returned (.tuple #[.pointer none, er 1]) ∧ w' = w := by
  by_cases h1 : n < 1
  · have t1 : decide (n < 1) = true := decide_eq_true h1
    go_enter Try.func12, Try.ntmps12
    go_wp2_with fail
    go_ret2
    exact ⟨rfl, rfl⟩
  · have t1 : decide (n < 1) = false := decide_eq_false h1
    have t2 : decide (100000 < n) = true := decide_eq_true (by omega)
    go_enter Try.func12, Try.ntmps12
    go_wp2_with fail
    go_ret2
    exact ⟨rfl, rfl⟩
theorem new_good (n : Int) (w : World) (h : 1 ≤ n) (h2 : n ≤ 100000) : Calls Try.prog 12 #[.int .i64 n] w fun e w' => e = .returned (.tuple #[.pointer (some ⟨w.heap.size, 0, none⟩), .nilIface]) ∧ Tm w' w.heap.size (-1) 0 n ∧ Below w.heap.size w w' := by
  have t1 : decide (n < 1) = false := decide_eq_false (by omega)
  have t2 : decide (100000 < n) = false := decide_eq_false (by omega)
  go_enter Try.func12, Try.ntmps12
  go_wp2_with fail
  go_ret2
  exact ⟨rfl, alloc_new w _, balloc (brefl w) _⟩
theorem dist_any (a b D : Int) (w : World) (ha : -100000 ≤ a) (ha2 : a ≤ 100000) (hb : -100000 ≤ b) (hb2 : b ≤ 100000) (hD : dist a b = D) : Calls Try.prog 19 #[.int .i64 a, .int .i64 b] w fun e w' => e = .returned (.int .i64 D) ∧ w' = w := by
  have HD := Lib.hid hD
  clear hD
  go_enter Try.func19, Try.ntmps19
  go_wp2_with fail
  all_goals go_ret
  all_goals refine ⟨?_, rfl⟩
  all_goals rw [← HD.out]; unfold dist
  · rw [if_pos (by omega)]; rfl
  · rw [if_neg (by omega)]; rfl
theorem wait_any (g : Nat) (s p W : Int) (w : World) (h : Tm w g s p W) : Calls Try.prog 13 #[.pointer (some ⟨g, 0, none⟩)] w fun e w' => e = .returned (.int .i64 W) ∧ w' = w := by
  obtain ⟨c0, c1, c2, _, _, _⟩ := h.cells
  clear h
  go_enter Try.func13, Try.ntmps13
  go_wp2_with fail
  go_ret
  exact ⟨rfl, rfl⟩
theorem late_any (g : Nat) (s p W W' : Int) (w : World) (h : Tm w g s p W) (h1 : 0 ≤ W) (h2 : W ≤ 100000) (hW : cap (2 * W) = W') : Calls Try.prog 16 #[.pointer (some ⟨g, 0, none⟩)] w fun e w' => e = .returned (.tuple #[]) ∧ Tm w' g s p W' ∧ w.grownBy w' (some g) := by
  obtain ⟨c0, c1, c2, f0, f1, f2⟩ := h.cells
  have H := Lib.hid h
  have HW := Lib.hid hW
  clear h hW
  go_enter Try.func16, Try.ntmps16
  go_wp2_with fail
  all_goals go_end0
  · have e : W' = 100000 := by rw [← HW.out]; unfold cap; rw [if_pos (by assumption)]
    rw [e]
    exact ⟨rfl, H.out.set2 _, set_grown w g 2 _⟩
  · have e : W' = 2 * W := by rw [← HW.out]; unfold cap; rw [if_neg (by omega)]
    rw [e]
    exact ⟨rfl, H.out.set2 _, set_grown w g 2 _⟩
theorem take_bad (g : Nat) (k : Int) (w : World) (h : ¬ (0 ≤ k ∧ k ≤ 100000)) : Calls Try.prog 14 #[.pointer (some ⟨g, 0, none⟩), .int .i64 k] w fun e w' => e = .returned (er 1) ∧ w' = w := by
  by_cases h1 : k < 0
  · have t1 : decide (k < 0) = true := decide_eq_true h1
    go_enter Try.func14, Try.ntmps14
    go_wp2_with fail
    go_ret
    exact ⟨rfl, rfl⟩
  · have t1 : decide (k < 0) = false := decide_eq_false h1
    have t2 : decide (100000 < k) = true := decide_eq_true (by omega)
    go_enter Try.func14, Try.ntmps14
    go_wp2_with fail
    go_ret
    exact ⟨rfl, rfl⟩
theorem take_good (g : Nat) (s p W k s' p' W' : Int) (w : World) (h : Tm w g s p W) (hO : Ok s p W) (h1 : 0 ≤ k) (h2 : k ≤ 100000) (hs : smooth s k = s') (hp : spread s p k = p') (hW : wait s' p' = W') :
    Calls Try.prog 14 #[.pointer (some ⟨g, 0, none⟩), .int .i64 k] w fun e w' => e = .returned .nilIface ∧ Tm w' g s' p' W' ∧ w.grownBy w' (some g) := by
  have t1 : decide (k < 0) = false := decide_eq_false (by omega)
  have t2 : decide (100000 < k) = false := decide_eq_false (by omega)
  obtain ⟨c0, c1, c2, f0, f1, f2⟩ := h.cells
  have H := Lib.hid h
  have hO1 := ok_take hO h1 h2
  rw [hs, hp, hW] at hO1
  have hs0 : s' ≠ -1 := by rw [← hs]; exact taken hO h1
  obtain ⟨b1, b2, b3, b4⟩ := known hO1 hs0
  obtain ⟨m, hm⟩ : ∃ m, more p' = m := ⟨_, rfl⟩
  obtain ⟨n, hn⟩ : ∃ n, s' + m = n := ⟨_, rfl⟩
  have hm1 : (if 1 < 4 * p' then 4 * p' else 1) = m := by rw [← hm]; unfold more; split <;> split <;> omega
  have hW1 : (if 100000 < n then 100000 else n) = W' := by rw [← hW, ← hn, ← hm]; rfl
  have hmb : 0 ≤ m ∧ m ≤ 400000 := by rw [← hm]; unfold more; split <;> omega
  by_cases hs1 : s = -1
  · have t3 : (s == -1) = true := by rw [hs1]; rfl
    obtain rfl : s' = k := by rw [← hs]; unfold smooth; rw [if_pos hs1]
    have hq : s'.tdiv 2 = p' := by rw [← hp]; unfold spread; rw [if_pos hs1, Int.tdiv_eq_ediv_of_nonneg h1]
    clear h hs hp hW hs1 hs0 hm hO1 hO
    go_enter Try.func14, Try.ntmps14
    go_wp2_with fail
    have HX := Lib.hid (grown_set (set_grown w g 0 (.int .i64 s')) 1 (.int .i64 p'))
    have HT := Lib.hid ((H.out.set0 s').set1 p')
    generalize (w.setCell ⟨g, 0, none⟩ (.int .i64 s')).setCell ⟨g, 1, none⟩ (.int .i64 p') = w2 at HX HT ⊢
    clear c0 c1 c2 f0 f1 f2
    obtain ⟨c0, c1, c2, f0, f1, f2⟩ := HT.out.cells
    go_region
    go_wp2_with fail
    go_ret
    exact ⟨rfl, HT.out.set2 W', grown_drew (grown_set HX.out 2 _)⟩
  · have t3 : (s == -1) = false := by rw [beq_eq_false_iff_ne]; exact hs1
    obtain ⟨b5, b6, b7, b8⟩ := known hO hs1
    obtain ⟨D, hD⟩ : ∃ D, dist k s = D := ⟨_, rfl⟩
    have hDb : 0 ≤ D ∧ D ≤ 100000 := by rw [← hD]; unfold dist; split <;> omega
    obtain ⟨c, hc⟩ : ∃ c, 3 * p + D = c := ⟨_, rfl⟩
    obtain ⟨e, he⟩ : ∃ e, 7 * s + k = e := ⟨_, rfl⟩
    have hq : c.tdiv 4 = p' := by rw [← hp]; unfold spread; rw [if_neg hs1, hD, hc, Int.tdiv_eq_ediv_of_nonneg (by omega)]
    have hr : e.tdiv 8 = s' := by rw [← hs]; unfold smooth; rw [if_neg hs1, he, Int.tdiv_eq_ediv_of_nonneg (by omega)]
    have DA := Lib.hid (fun W => dist_any k s D W (by omega) (by omega) (by omega) (by omega) hD)
    clear h hs hp hW hs1 hs0 hm hO1 hO hD
    go_enter Try.func14, Try.ntmps14
    go_wp2_with fail
    go_region_law (first
        | (go_simp; go_at_call 19; refine (DA.out _).mono ?_; rintro e w8 ⟨rfl, rfl⟩))
    all_goals rw [wrap_in (show -9223372036854775808 ≤ 3 * p ∧ 3 * p ≤ 9223372036854775807 by omega), hc, wrap_in (show -9223372036854775808 ≤ c ∧ c ≤ 9223372036854775807 by omega), hq, wrap_in (show -9223372036854775808 ≤ p' ∧ p' ≤ 9223372036854775807 by omega)]
    all_goals
      have HX := Lib.hid (grown_drew (set_grown w g 1 (.int .i64 p')))
      have HT := Lib.hid (H.out.set1 p').drew
      generalize (w.setCell ⟨g, 1, none⟩ (.int .i64 p')).drew = w1 at HX HT ⊢
      clear c0 c1 c2 f0 f1 f2
      obtain ⟨c0, c1, c2, f0, f1, f2⟩ := HT.out.cells
      go_wp2_with fail
      have HX2 := Lib.hid (grown_set HX.out 0 (.int .i64 s'))
      have HT2 := Lib.hid (HT.out.set0 s')
      generalize w1.setCell ⟨g, 0, none⟩ (.int .i64 s') = w2 at HX2 HT2 ⊢
      clear c0 c1 c2 f0 f1 f2 HX HT
      obtain ⟨c0, c1, c2, f0, f1, f2⟩ := HT2.out.cells
      go_region
      go_wp2_with fail
      go_ret
      exact ⟨rfl, HT2.out.set2 W', grown_drew (grown_set HX2.out 2 _)⟩
end Go.Proofs.Ytjknojfdlpgicaa.Rtt
