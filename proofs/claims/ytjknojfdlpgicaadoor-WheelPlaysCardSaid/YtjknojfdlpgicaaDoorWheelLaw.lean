/- Package wheel: what the laws call besides (Has, wheelFact), and the ticks left as the laws count them. No statement is proved here. -/
import Derived.Test.YtjknojfdlpgicaaDoorWheelStart
import Derived.Test.YtjknojfdlpgicaaDoorWheelTick
import Derived.Test.YtjknojfdlpgicaaDoorRttIn
import Derived.Test.YtjknojfdlpgicaaDoorSame
namespace Go.Proofs.YtjknojfdlpgicaaDoor.Wheel
open Go.ChangeShapes Go.WideShapes Go.ChangeAt Go.RowKit Go.Proofs.YtjknojfdlpgicaaDoor.Kit Go.Proofs.YtjknojfdlpgicaaDoor.App Go.Proofs.YtjknojfdlpgicaaDoor.Queue Go.Proofs.YtjknojfdlpgicaaDoor.MapZ Go.Proofs.YtjknojfdlpgicaaDoor.WheelMath
set_option linter.unusedVariables false
set_option maxRecDepth 20000
set_option maxHeartbeats 1000000

def none0 : Int → Nat := fun _ => 0
/-- So many ticks later. -/
def aft (left : Int → Nat) (k : Nat) : Int → Nat := fun i => left i - k
theorem aft_zero (left : Int → Nat) : aft left 0 = left := rfl
theorem dec_aft (left : Int → Nat) (k : Nat) : dec (aft left k) = aft left (k + 1) := by funext i; unfold dec aft; omega
theorem dec_none : dec none0 = none0 := rfl
/-- The ticks that a timer is started with, or none. -/
def val (a : Int) : Nat := if 1 ≤ a ∧ a ≤ 400 then a.toNat else 0
theorem val_bad {a : Int} (h : ¬ (1 ≤ a ∧ a ≤ 400)) : val a = 0 := if_neg h
theorem val_good {a : Nat} (h : 1 ≤ a) (h2 : a ≤ 400) : val (a : Int) = a := by unfold val; rw [if_pos (by omega)]; omega
theorem val_one (a : Int) (t : Nat) (h : 1 ≤ t) (h2 : t ≤ 400) : val a = t ↔ a = (t : Int) := by unfold val; split <;> omega
theorem upd_zero {left : Int → Nat} {i : Int} (h : left i = 0) : updZ left i 0 = left := by
  funext j
  by_cases e : j = i
  · subst e; rw [updZ_same, h]
  · rw [updZ_other _ _ e]
theorem due_nil {left : Int → Nat} (h : ∀ i, left i ≠ 1) : dueL left = [] := by
  refine List.eq_nil_iff_forall_not_mem.2 fun i hi => ?_
  unfold dueL at hi
  rw [mem_uptoL] at hi
  exact h i hi.2.2
theorem due_in {left : Int → Nat} {i : Int} (h : 0 ≤ i) (h2 : i < 20) : i ∈ dueL left ↔ left i = 1 := by
  unfold dueL
  rw [mem_uptoL]
  exact ⟨fun h => h.2.2, fun h3 => ⟨h, by omega, h3⟩⟩
theorem due_short {left : Int → Nat} {i : Int} (h : ∀ j, j ≠ i → left j = 0) : (dueL left).length ≤ 1 := by
  have hn := nodup_upto left 20
  have hm : ∀ j ∈ dueL left, j = i := fun j hj => by
    unfold dueL at hj
    rw [mem_uptoL] at hj
    by_cases e : j = i
    · exact e
    · have := h j e; omega
  unfold dueL at hm ⊢
  generalize uptoL left 20 = l at hn hm
  match l with
  | [] => simp
  | [x] => simp
  | x :: y :: l =>
    have h1 := hm x (by simp)
    have h2 := hm y (by simp)
    simp [h1, h2] at hn

variable {X Y : Nat → Prop} {w : World} {b n : Nat} {left : Int → Nat}
theorem Wh.less (H : Wh X w b n left) (h : ∀ k, Y k → X k) : Wh Y w b n left :=
  H.more (row := none) ⟨rfl, rfl, rfl, Nat.le_refl _, fun _ _ _ => rfl⟩ (fun k hk => by cases hk) (fun k hk => ⟨.inl (h k hk), H.xl k (h k hk)⟩)
/-- Start at a timer that does not run. -/
theorem start_free (X : Nat → Prop) (b n : Nat) (left : Int → Nat) (i a : Int) (w : World) (H : Wh X w b n left) (hn : n ≤ 1000000) (h0 : 0 ≤ i ∧ i < 20) (hl : left i = 0) :
    Calls Tryd.prog 7 #[.pointer (some ⟨b, 0, none⟩), .int .i64 i, .int .i64 a] w fun e w' => e = .returned (er (if 1 ≤ a ∧ a ≤ 400 then 0 else 1)) ∧ Wh X w' b (n + 1) (updZ left i (val a)) ∧ Keep X w w' := by
  by_cases ha : 1 ≤ a ∧ a ≤ 400
  · obtain ⟨k, rfl⟩ : ∃ k : Nat, (k : Int) = a := ⟨a.toNat, by omega⟩
    rw [if_pos ha, val_good (by omega) (by omega)]
    exact start_good X b n left i k w H hn h0 (by omega) (by omega) hl
  · rw [if_neg ha, val_bad ha, upd_zero hl]
    refine (start_bad b i a w (by omega)).mono ?_
    rintro e w' ⟨rfl, rfl⟩
    exact ⟨rfl, H.mono (Nat.le_succ _), Keep.refl _ _⟩

theorem has_any (p : Option Addr) (cap n : Nat) (l : List Int) (x : Int) (w : World) (hn : n = l.length) (hi : Ints w p cap l) (R : Bool) (hR : R = decide (x ∈ l)) :
    Calls Tryd.prog 13 #[.slice p n cap, .int .i64 x] w fun e w' => e = .returned (.bool R) ∧ w' = w := by
  have hlen := hi.len_le
  rw [← hn] at hlen
  have HR := Lib.hid hR
  have HN := Lib.hid hn
  have HI := Lib.hid hi
  clear hR hn hi
  go_enter Tryd.func13, Tryd.ntmps13
  go_wp2_with fail
  go_loopw [5] (fun iv wr => ∃ j : Nat, iv = .int .i64 (j : Int) ∧ j ≤ n ∧ wr = w ∧ Hid (x ∉ l.take j)) (fun i _ => n - (intOf i).toNat)
  case atStart => exact ⟨0, rfl, Nat.zero_le _, rfl, Lib.hid (by simp)⟩
  case round =>
    obtain ⟨j, rfl, hj, rfl, HX⟩ := hrel
    by_cases hjn : j < n
    · have t1 : decide ((j : Int) < (n : Int)) = true := decide_eq_true (by omega)
      obtain ⟨bb, off, rfl, hb, hcs⟩ := HI.out.2.2.2 (by rw [← HN.out]; omega)
      have hc := hcs j (by rw [← HN.out]; omega)
      have ht := Lib.hid (take_one (l := l) (k := j) (by rw [← HN.out]; omega))
      have hmem := Lib.hid (show l[j]?.getD 0 ∈ l by rw [List.getElem?_eq_getElem (by rw [← HN.out]; omega)]; exact List.getElem_mem _)
      generalize l[j]?.getD 0 = y at hc ht hmem
      clear hcs hb
      by_cases hxy : y = x
      · have t2 : (y == x) = true := by rw [hxy]; simp
        go_wp2_with fail
        go_ret
        exact ⟨by rw [HR.out, ← hxy, decide_eq_true hmem.out]; rfl, rfl⟩
      · have t2 : (y == x) = false := by rw [beq_eq_false_iff_ne]; exact hxy
        go_wp2_with fail
        go_roundw
        case rel => exact ⟨j + 1, by first | rfl | go_num, by omega, by first | trivial | rfl, Lib.hid (by rw [ht.out, List.mem_append]; rintro (h | h); exact HX.out h; simp at h; exact hxy h.symm)⟩
        case measure => simp [intOf]; omega
    · obtain rfl : j = n := by omega
      have t1 : decide ((j : Int) < (j : Int)) = false := decide_eq_false (by omega)
      go_wp2_with fail
      go_ret
      exact ⟨by rw [HR.out, decide_eq_false (by have h := HX.out; rwa [List.take_of_length_le (by rw [HN.out]; exact Nat.le_refl _)] at h)]; rfl, rfl⟩

theorem fact_any (w : World) : Calls Tryd.prog 5 #[] w fun e w' => e = .returned (.bool true) ∧ Below w.heap.size w w' := by
  have N := Lib.hid (new_any w)
  have G := Lib.hid (fun b W H => start_good (fun k => k < w.heap.size) b 0 none0 3 9 W H (by omega) (by omega) (by omega) (by omega) rfl)
  have T := Lib.hid (fun b left W H => tick_any (fun k => k < w.heap.size) b 1 left W H)
  have Q := Lib.hid (fun b left W H => left_any (fun k => k < w.heap.size) b 1 left 3 W H (by decide))
  go_enter Tryd.func5, Tryd.ntmps5
  go_wp2_with fail
  refine N.out.mono ?_; rintro e w1 ⟨b, rfl, hW1, hb1⟩
  have C1 := Lib.hid (G.out b w1 hW1)
  have hb1 := Lib.hid hb1
  clear hW1 N
  go_wp2_with fail
  refine C1.out.mono ?_; rintro e w2 ⟨rfl, hW2, hK2⟩
  have HW2 := Lib.hid hW2
  have HB2 := Lib.hid (hb1.out.trans (hK2.below (B := w.heap.size) (fun k hk => hk)))
  clear C1 hW2 hK2 hb1
  go_wp2_with fail
  go_loopw [3] (fun iv wr => ∃ j : Nat, iv = .int .i64 (j : Int) ∧ j ≤ 8 ∧ Hid (Wh (fun k => k < w.heap.size) wr b 1 (aft (updZ none0 3 9) j)) ∧ Hid (Below w.heap.size w wr)) (fun i _ => 8 - (intOf i).toNat)
  case atStart => exact ⟨0, rfl, Nat.zero_le _, HW2, HB2⟩
  case round =>
    obtain ⟨j, rfl, hj, HW, HB⟩ := hrel
    clear HW2 HB2
    have C2 := Lib.hid (T.out b _ wr HW.out)
    by_cases hj8 : j < 8
    · have t1 : decide ((j : Int) < 8) = true := decide_eq_true (by omega)
      have hd : dueL (aft (updZ none0 3 9) j) = [] := due_nil fun i => by
        unfold aft updZ none0
        split <;> omega
      rw [hd, dec_aft] at C2
      clear hd
      go_wp2_with fail
      refine C2.out.mono ?_; rintro e w3 ⟨p, cap, rfl, hi, hW3, hK3⟩
      have HW3 := Lib.hid hW3
      have HB3 := Lib.hid (HB.out.trans (hK3.below (B := w.heap.size) (fun k hk => hk)))
      clear C2 hi hW3 hK3
      go_wp2_with fail
      go_roundw
      case rel => exact ⟨j + 1, by first | rfl | go_num, by omega, HW3, HB3⟩
      case measure => simp [intOf]; omega
    · obtain rfl : j = 8 := by omega
      have C3 := Lib.hid (Q.out b _ wr HW.out)
      rw [show ((if aft (updZ none0 3 9) 8 3 = 0 then (-1 : Int) else (aft (updZ none0 3 9) 8 3 : Nat)) : Int) = 1 by decide] at C3
      have hd : dueL (aft (updZ none0 3 9) 8) = [3] := by decide
      clear C2
      go_wp2_with fail
      refine C3.out.mono ?_; rintro e w3 ⟨rfl, m3, rfl⟩
      have C4 := Lib.hid (T.out b _ (wr.drewN m3) (HW.out.drewN m3))
      rw [hd] at C4
      clear C3 hd
      go_wp2_with fail
      refine C4.out.mono ?_; rintro e w4 ⟨p, cap, rfl, hi, hW4, hK4⟩
      have HB4 := Lib.hid ((Go.Proofs.YtjknojfdlpgicaaDoor.Rtt.bdrewN HB.out m3).trans (hK4.below (B := w.heap.size) (fun k hk => hk)))
      have IA := Lib.hid (ints_any p (some ⟨w4.heap.size, 0, none⟩) cap 1 1 1 [3] [3] (w4.alloc (.cells #[.int .i64 3] 3)) rfl rfl (hi.below (balloc (brefl w4) _)) (Ints.one w4 3 (by decide)) true rfl)
      clear C4 hi hW4 hK4
      go_wp2_with fail
      refine IA.out.mono ?_; rintro e w5 ⟨rfl, hb5⟩
      have HB5 := Lib.hid ((HB4.out.alloc HB4.out.size (.cells #[.int .i64 3] 3)).trans (hb5.mono (by have := HB4.out.size; simp; omega)))
      clear IA hb5
      go_wp2_with fail
      go_ret
      exact ⟨rfl, HB5.out⟩
end Go.Proofs.YtjknojfdlpgicaaDoor.Wheel
