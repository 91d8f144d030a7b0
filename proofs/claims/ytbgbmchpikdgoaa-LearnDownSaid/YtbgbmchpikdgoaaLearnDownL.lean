/- LearnDown: of a port that is down nothing is known, till somebody is heard there again, and of all others what was: for every input. No condition. -/
import Derived.Test.YtbgbmchpikdgoaaLearnFact
import Derived.Test.YtbgbmchpikdgoaaLearnMore
import Derived.Test.YtbgbmchpikdgoaaHasIn
import Derived.Test.YtbgbmchpikdgoaaIn3
namespace Go.Proofs.Ytbgbmchpikdgoaa.LearnDownL
open Go.ChangeShapes Go.WideShapes Go.ChangeAt Go.RowKit Go.Proofs.Ytbgbmchpikdgoaa.Kit Go.Proofs.Ytbgbmchpikdgoaa.App Go.Proofs.Ytbgbmchpikdgoaa.Cells Go.Proofs.Ytbgbmchpikdgoaa.Err Go.Proofs.Ytbgbmchpikdgoaa.Learn
set_option linter.unusedVariables false
set_option maxRecDepth 20000
set_option maxHeartbeats 2000000
abbrev Law (p : Option Addr) (m cap : Nat) (q x o : Int) (w : World) : Prop := Calls Try.prog 5 #[.slice p m cap, .int .i64 q, .int .i64 x, .int .i64 o] w fun e w' => e = .returned (.bool true) ∧ Below w.heap.size w w'
def cn (l : List E) (q : Int) (k : Nat) : Nat := if 0 ≤ q then cnt l q k else 0
theorem cn_zero (l : List E) (q : Int) : cn l q 0 = 0 := by unfold cn; split <;> rfl
theorem cn_le (l : List E) (q : Int) (k : Nat) : cn l q k ≤ k := by
  unfold cn
  split
  · exact cnt_le l q k
  · exact Nat.zero_le _
theorem cn_yes {l : List E} {q : Int} {k : Nat} (h : find l (k : Int) = q) (h0 : 0 ≤ q) : cn l q (k + 1) = cn l q k + 1 := by unfold cn; rw [if_pos h0, if_pos h0, cnt_yes h]
theorem cn_no {l : List E} {q : Int} {k : Nat} (h : ¬ (find l (k : Int) = q ∧ 0 ≤ q)) : cn l q (k + 1) = cn l q k := by
  unfold cn
  by_cases h0 : 0 ≤ q
  · rw [if_pos h0, if_pos h0, cnt_no (fun e => h ⟨e, h0⟩)]
  · rw [if_neg h0, if_neg h0]
theorem law_bad (p : Option Addr) (m cap : Nat) (ls : List (List Int)) (q x o : Int) (w : World) (hm : m = ls.length) (hi : RowsI w p cap ls) (h : ¬ isP q) : Law p m cap q x o w := by
  have DB := Lib.hid (fun s W => down_bad s q W h)
  have I1 := Lib.hid (fun W => Drr.in_any q 0 3 W false (in_false h))
  rw [er_1] at DB
  clear h
  have FA := Lib.hid (fact_any w)
  have HE := Lib.hid (fun W (hW : Below w.heap.size w W) => heard_any p cap m ls W hm (hi.below hW))
  clear hi hm
  unfold Law
  go_enter Try.func5, Try.ntmps5
  go_wp2_with fail
  refine FA.out.mono ?_; rintro e w1 ⟨rfl, hb1⟩
  have HB1 := Lib.hid hb1
  clear FA hb1
  go_wp2_with fail
  refine (HE.out w1 HB1.out).mono ?_; rintro e w2 ⟨s, l, rfl, hs2, hb2⟩
  have HS2 := Lib.hid (hs2.mono (Y := fun k => k < w.heap.size) (fun k hk => Nat.lt_of_lt_of_le hk HB1.out.size))
  have HB2 := Lib.hid (bcall HB1.out hb2)
  clear hs2 hb2 HE HB1
  go_wp2_with fail
  refine (port_any _ s l x w2 HS2.out).mono ?_; rintro e w3 ⟨rfl, hb3⟩
  have HB3 := Lib.hid (bcall HB2.out hb3)
  have HS3 := Lib.hid (HS2.out.below hb3)
  clear hb3 HB2 HS2
  obtain ⟨was, hwas⟩ : ∃ was, find l x = was := ⟨_, rfl⟩
  rw [hwas]
  have HW := Lib.hid hwas
  clear hwas
  go_wp2_with fail
  go_loopw [12, 13] (fun mv iv wr => ∃ k : Nat, k ≤ 12 ∧ mv = .int .i64 ((cn l q k : Nat) : Int) ∧ iv = .int .i64 (k : Int) ∧ Hid (Sw (fun k => k < w.heap.size) wr s l) ∧ Hid (Below w.heap.size w wr)) (fun _ i _ => 12 - (intOf i).toNat)
  case atStart => exact ⟨0, Nat.zero_le _, by rw [cn_zero]; rfl, rfl, HS3, HB3⟩
  case round =>
    obtain ⟨k, hk, rfl, rfl, HS, HB⟩ := hrel
    clear HS3 HB3
    by_cases h1 : k < 12
    · have u1 : decide ((k : Int) < 12) = true := decide_eq_true (by omega)
      have HP := Lib.hid (port_any _ s l (k : Int) wr HS.out)
      obtain ⟨z, hz⟩ : ∃ z, find l (k : Int) = z := ⟨_, rfl⟩
      have hcn := cn_le l q k
      have HCY := Lib.hid (fun (h : find l (k : Int) = q) (h0 : 0 ≤ q) => cn_yes h h0)
      have HCN := Lib.hid (fun (h : ¬ (find l (k : Int) = q ∧ 0 ≤ q)) => cn_no h)
      rw [hz] at HP HCY HCN
      clear hz
      generalize cn l q k = c at HCY HCN hcn ⊢
      by_cases hzq : z = q
      · have u2 : (z == q) = true := by rw [beq_iff_eq]; exact hzq
        by_cases h0 : 0 ≤ q
        · have u3 : decide (q ≥ 0) = true := decide_eq_true h0
          have HE := Lib.hid (HCY.out hzq h0)
          clear HCY HCN hzq h0
          go_wp2_with fail
          refine HP.out.mono ?_; rintro e w4 ⟨rfl, hb4⟩
          have HB4 := Lib.hid (bcall HB.out hb4)
          have HS4 := Lib.hid (HS.out.below hb4)
          clear hb4 HB HS HP
          go_wp2_with fail
          go_roundw
          case rel => exact ⟨k + 1, by omega, by rw [HE.out]; first | rfl | go_num, by first | rfl | go_num, HS4, HB4⟩
          case measure => simp [intOf]; omega
        · have u3 : decide (q ≥ 0) = false := decide_eq_false h0
          have HE := Lib.hid (HCN.out (fun h => h0 h.2))
          clear HCY HCN hzq h0
          go_wp2_with fail
          refine HP.out.mono ?_; rintro e w4 ⟨rfl, hb4⟩
          have HB4 := Lib.hid (bcall HB.out hb4)
          have HS4 := Lib.hid (HS.out.below hb4)
          clear hb4 HB HS HP
          go_wp2_with fail
          go_roundw
          case rel => exact ⟨k + 1, by omega, by rw [HE.out], by first | rfl | go_num, HS4, HB4⟩
          case measure => simp [intOf]; omega
      · have u2 : (z == q) = false := by rw [beq_eq_false_iff_ne]; exact hzq
        have HE := Lib.hid (HCN.out (fun h => hzq h.1))
        clear HCY HCN hzq
        go_wp2_with fail
        refine HP.out.mono ?_; rintro e w4 ⟨rfl, hb4⟩
        have HB4 := Lib.hid (bcall HB.out hb4)
        have HS4 := Lib.hid (HS.out.below hb4)
        clear hb4 HB HS HP
        go_wp2_with fail
        go_roundw
        case rel => exact ⟨k + 1, by omega, by rw [HE.out], by first | rfl | go_num, HS4, HB4⟩
        case measure => simp [intOf]; omega
    · obtain rfl : k = 12 := by omega
      have u1 : decide (((12 : Nat) : Int) < 12) = false := decide_eq_false (by omega)
      generalize cn l q 12 = c
      go_wp2_with fail
      refine (DB.out s wr).mono ?_; rintro e w4 ⟨rfl, hb4⟩
      have HB4 := Lib.hid (bcall HB.out hb4)
      have HS4 := Lib.hid (HS.out.below hb4)
      clear hb4 HB HS DB
      go_wp2_with fail
      refine (I1.out _).mono ?_; rintro e w5 ⟨rfl, rfl⟩
      go_wp2_with fail
      refine (port_any _ s l x w5 HS4.out).mono ?_; rintro e w6 ⟨rfl, hb6⟩
      have HB6 := Lib.hid (bcall HB4.out hb6)
      rw [HW.out]
      have u2 : (was == was) = true := by simp
      clear hb6
      go_wp2_with fail
      go_ret
      exact ⟨rfl, HB6.out⟩
theorem law_good (p : Option Addr) (m cap : Nat) (ls : List (List Int)) (q x o : Int) (w : World) (hm : m = ls.length) (hi : RowsI w p cap ls) (h : isP q) : Law p m cap q x o w := by
  have DG := Lib.hid (fun s l W (H : Sw (fun k => k < w.heap.size) W s l) => down_good _ s l q W H h)
  have HQ := Lib.hid h
  rw [er_0] at DG
  clear h
  have FA := Lib.hid (fact_any w)
  have HE := Lib.hid (fun W (hW : Below w.heap.size w W) => heard_any p cap m ls W hm (hi.below hW))
  clear hi hm
  unfold Law
  go_enter Try.func5, Try.ntmps5
  go_wp2_with fail
  refine FA.out.mono ?_; rintro e w1 ⟨rfl, hb1⟩
  have HB1 := Lib.hid hb1
  clear FA hb1
  go_wp2_with fail
  refine (HE.out w1 HB1.out).mono ?_; rintro e w2 ⟨s, l, rfl, hs2, hb2⟩
  have HS2 := Lib.hid (hs2.mono (Y := fun k => k < w.heap.size) (fun k hk => Nat.lt_of_lt_of_le hk HB1.out.size))
  have HB2 := Lib.hid (bcall HB1.out hb2)
  clear hs2 hb2 HE HB1
  go_wp2_with fail
  refine (port_any _ s l x w2 HS2.out).mono ?_; rintro e w3 ⟨rfl, hb3⟩
  have HB3 := Lib.hid (bcall HB2.out hb3)
  have HS3 := Lib.hid (HS2.out.below hb3)
  clear hb3 HB2 HS2
  obtain ⟨was, hwas⟩ : ∃ was, find l x = was := ⟨_, rfl⟩
  rw [hwas]
  have HW := Lib.hid hwas
  clear hwas
  go_wp2_with fail
  go_loopw [12, 13] (fun mv iv wr => ∃ k : Nat, k ≤ 12 ∧ mv = .int .i64 ((cn l q k : Nat) : Int) ∧ iv = .int .i64 (k : Int) ∧ Hid (Sw (fun k => k < w.heap.size) wr s l) ∧ Hid (Below w.heap.size w wr)) (fun _ i _ => 12 - (intOf i).toNat)
  case atStart => exact ⟨0, Nat.zero_le _, by rw [cn_zero]; rfl, rfl, HS3, HB3⟩
  case round =>
    obtain ⟨k, hk, rfl, rfl, HS, HB⟩ := hrel
    clear HS3 HB3
    by_cases h1 : k < 12
    · have u1 : decide ((k : Int) < 12) = true := decide_eq_true (by omega)
      have HP := Lib.hid (port_any _ s l (k : Int) wr HS.out)
      obtain ⟨z, hz⟩ : ∃ z, find l (k : Int) = z := ⟨_, rfl⟩
      have hcn := cn_le l q k
      have HCY := Lib.hid (fun (h : find l (k : Int) = q) (h0 : 0 ≤ q) => cn_yes h h0)
      have HCN := Lib.hid (fun (h : ¬ (find l (k : Int) = q ∧ 0 ≤ q)) => cn_no h)
      rw [hz] at HP HCY HCN
      clear hz
      generalize cn l q k = c at HCY HCN hcn ⊢
      by_cases hzq : z = q
      · have u2 : (z == q) = true := by rw [beq_iff_eq]; exact hzq
        by_cases h0 : 0 ≤ q
        · have u3 : decide (q ≥ 0) = true := decide_eq_true h0
          have HE := Lib.hid (HCY.out hzq h0)
          clear HCY HCN hzq h0
          go_wp2_with fail
          refine HP.out.mono ?_; rintro e w4 ⟨rfl, hb4⟩
          have HB4 := Lib.hid (bcall HB.out hb4)
          have HS4 := Lib.hid (HS.out.below hb4)
          clear hb4 HB HS HP
          go_wp2_with fail
          go_roundw
          case rel => exact ⟨k + 1, by omega, by rw [HE.out]; first | rfl | go_num, by first | rfl | go_num, HS4, HB4⟩
          case measure => simp [intOf]; omega
        · have u3 : decide (q ≥ 0) = false := decide_eq_false h0
          have HE := Lib.hid (HCN.out (fun h => h0 h.2))
          clear HCY HCN hzq h0
          go_wp2_with fail
          refine HP.out.mono ?_; rintro e w4 ⟨rfl, hb4⟩
          have HB4 := Lib.hid (bcall HB.out hb4)
          have HS4 := Lib.hid (HS.out.below hb4)
          clear hb4 HB HS HP
          go_wp2_with fail
          go_roundw
          case rel => exact ⟨k + 1, by omega, by rw [HE.out], by first | rfl | go_num, HS4, HB4⟩
          case measure => simp [intOf]; omega
      · have u2 : (z == q) = false := by rw [beq_eq_false_iff_ne]; exact hzq
        have HE := Lib.hid (HCN.out (fun h => hzq h.1))
        clear HCY HCN hzq
        go_wp2_with fail
        refine HP.out.mono ?_; rintro e w4 ⟨rfl, hb4⟩
        have HB4 := Lib.hid (bcall HB.out hb4)
        have HS4 := Lib.hid (HS.out.below hb4)
        clear hb4 HB HS HP
        go_wp2_with fail
        go_roundw
        case rel => exact ⟨k + 1, by omega, by rw [HE.out], by first | rfl | go_num, HS4, HB4⟩
        case measure => simp [intOf]; omega
    · obtain rfl : k = 12 := by omega
      have u1 : decide (((12 : Nat) : Int) < 12) = false := decide_eq_false (by omega)
      have hN1 := cnt_down l (p := q) (by have := HQ.out.1; omega) 12
      have hc1 : cn l q 12 = cnt l q 12 := by unfold cn; rw [if_pos HQ.out.1]
      rw [← hc1] at hN1
      have hN2 := HS.out.ok.len
      have HG1 := Lib.hid (fun h : find l x = q => find_down_gone HS.out.ok h)
      have HG2 := Lib.hid (fun h : find l x ≠ q => find_down_kept HS.out.ok h)
      have DG2 := Lib.hid (DG.out s l wr HS.out)
      generalize cn l q 12 = c at hN1 ⊢
      clear hc1
      generalize down l q = l2 at hN1 HG1 HG2 DG2
      obtain ⟨N, hN⟩ : ∃ N : Int, (l.length : Int) - (l2.length : Int) = N := ⟨_, rfl⟩
      rw [hN] at DG2
      have u2 : decide (N < (c : Int)) = false := decide_eq_false (by omega)
      have u3 : decide (N > 8) = false := decide_eq_false (by omega)
      rw [HW.out] at HG1 HG2
      clear hN hN1 hN2 DG HW
      go_wp2_with fail
      refine DG2.out.mono ?_; rintro e w4 ⟨rfl, hs4, hk4⟩
      have HS4 := Lib.hid hs4
      have HB4 := Lib.hid (HB.out.trans (hk4.below (fun k h => h)))
      have HP4 := Lib.hid (port_any _ s l2 x w4 hs4)
      clear hs4 hk4 HB HS DG2
      by_cases hwq : was = q
      · subst hwq
        have u4 : (was == was) = true := by simp
        have u5 : (was != was) = false := by simp
        have HF := Lib.hid (HG1.out rfl)
        rw [HF.out] at HP4
        clear HG1 HG2
        go_wp2_with fail
        refine HP4.out.mono ?_; rintro e w6 ⟨rfl, hb6⟩
        have HB6 := Lib.hid (bcall HB4.out hb6)
        have HS6 := Lib.hid (HS4.out.below hb6)
        clear hb6 HB4 HS4 HP4
        by_cases hf : isA o ∧ isA x
        · have FG := Lib.hid (frame_good _ s l2 o x was w6 HS6.out hf.1 hf.2 HQ.out)
          rw [er_0] at FG
          by_cases hox : o = x
          · have u6 : (o == x) = true := by rw [beq_iff_eq]; exact hox
            clear hox hf
            go_wp2_with fail
            refine FG.out.mono ?_; rintro e w7 ⟨v, rfl, ho7, hs7, hk7⟩
            obtain ⟨p1, c1, rfl, hi1, ha1⟩ := own_read ho7
            have HB7 := Lib.hid (HB6.out.trans (hk7.below (fun k h => h)))
            clear ho7 hs7 hk7 hi1 ha1 FG
            go_wp2_with fail
            go_ret
            exact ⟨rfl, HB7.out⟩
          · have u6 : (o == x) = false := by rw [beq_eq_false_iff_ne]; exact hox
            have HF2 := Lib.hid (flood_new HS6.out.ok (p := was) hox HF.out)
            have HF3 := Lib.hid (find_self HS6.out.ok hf.1 HQ.out)
            rw [out_flood HF2.out HQ.out] at FG
            clear hox hf HF2
            have u7 : (was == was) = true := by simp
            go_wp2_with fail
            refine FG.out.mono ?_; rintro e w7 ⟨v, rfl, ho7, hs7, hk7⟩
            obtain ⟨p1, c1, rfl, hi1, ha1⟩ := own_read ho7
            have HB7 := Lib.hid (HB6.out.trans (hk7.below (fun k h => h)))
            have HP7 := Lib.hid (port_any _ s _ o w7 hs7)
            rw [HF3.out] at HP7
            rw [others_len HQ.out]
            clear ho7 hs7 hk7 hi1 ha1 FG HF3
            go_wp2_with fail
            refine HP7.out.mono ?_; rintro e w8 ⟨rfl, hb8⟩
            have HB8 := Lib.hid (bcall HB7.out hb8)
            clear hb8 HP7
            go_wp2_with fail
            go_ret
            exact ⟨rfl, HB8.out⟩
        · have FB := Lib.hid (frame_bad s o x was w6 (fun h => hf ⟨h.1, h.2.1⟩))
          rw [er_1] at FB
          go_wp2_with fail
          refine FB.out.mono ?_; rintro e w7 ⟨rfl, rfl⟩
          by_cases ho : isA o
          · have hx : ¬ isA x := fun hx => hf ⟨ho, hx⟩
            have I1 := Lib.hid (fun W => Drr.in_any o 0 65535 W true (in_true ho))
            have I2 := Lib.hid (fun W => Drr.in_any x 0 65535 W false (in_false hx))
            clear FB hf hx ho
            go_wp2_with fail
            refine (I1.out _).mono ?_; rintro e w8 ⟨rfl, rfl⟩
            go_wp2_with fail
            refine (I2.out _).mono ?_; rintro e w9 ⟨rfl, rfl⟩
            go_wp2_with fail
            go_ret
            exact ⟨rfl, HB6.out⟩
          · have I1 := Lib.hid (fun W => Drr.in_any o 0 65535 W false (in_false ho))
            clear FB hf ho
            go_wp2_with fail
            refine (I1.out _).mono ?_; rintro e w8 ⟨rfl, rfl⟩
            go_wp2_with fail
            go_ret
            exact ⟨rfl, HB6.out⟩
      · have u4 : (was == q) = false := by rw [beq_eq_false_iff_ne]; exact hwq
        have u5 : (was != q) = true := by rw [bne_iff_ne]; exact hwq
        have u6 : (was != was) = false := by simp
        have HF := Lib.hid (HG2.out hwq)
        clear HG1 HG2
        rw [HF.out] at HP4
        go_wp2_with fail
        refine HP4.out.mono ?_; rintro e w6 ⟨rfl, hb6⟩
        have HB6 := Lib.hid (bcall HB4.out hb6)
        have HS6 := Lib.hid (HS4.out.below hb6)
        clear hb6 HB4 HS4 HP4
        by_cases hf : isA o ∧ isA x
        · have FG := Lib.hid (frame_good _ s l2 o x q w6 HS6.out hf.1 hf.2 HQ.out)
          rw [er_0] at FG
          clear hf
          go_wp2_with fail
          refine FG.out.mono ?_; rintro e w7 ⟨v, rfl, ho7, hs7, hk7⟩
          obtain ⟨p1, c1, rfl, hi1, ha1⟩ := own_read ho7
          have HB7 := Lib.hid (HB6.out.trans (hk7.below (fun k h => h)))
          clear ho7 hs7 hk7 hi1 ha1 FG
          go_wp2_with fail
          go_ret
          exact ⟨rfl, HB7.out⟩
        · have FB := Lib.hid (frame_bad s o x q w6 (fun h => hf ⟨h.1, h.2.1⟩))
          rw [er_1] at FB
          go_wp2_with fail
          refine FB.out.mono ?_; rintro e w7 ⟨rfl, rfl⟩
          by_cases ho : isA o
          · have hx : ¬ isA x := fun hx => hf ⟨ho, hx⟩
            have I1 := Lib.hid (fun W => Drr.in_any o 0 65535 W true (in_true ho))
            have I2 := Lib.hid (fun W => Drr.in_any x 0 65535 W false (in_false hx))
            clear FB hf hx ho
            go_wp2_with fail
            refine (I1.out _).mono ?_; rintro e w8 ⟨rfl, rfl⟩
            go_wp2_with fail
            refine (I2.out _).mono ?_; rintro e w9 ⟨rfl, rfl⟩
            go_wp2_with fail
            go_ret
            exact ⟨rfl, HB6.out⟩
          · have I1 := Lib.hid (fun W => Drr.in_any o 0 65535 W false (in_false ho))
            clear FB hf ho
            go_wp2_with fail
            refine (I1.out _).mono ?_; rintro e w8 ⟨rfl, rfl⟩
            go_wp2_with fail
            go_ret
            exact ⟨rfl, HB6.out⟩

theorem reads : Try.f5.params.toList.all (fun t => Try.prog.readableRec t && decide (t < Try.prog.types.size)) = true := by kernel_rfl

theorem contract (H : Type) (enc : TypeId × Value → H) (W : World) (base : Nat) (args : Array Value) (ds gs : List (DataW H)) (before : List MemPlace)
    (hval : ∀ (j : Nat) t v, Try.f5.params[j]? = some t → args[j]? = some v → Value.okWide Try.prog W .any base t v)
    (hW : DataW.Whole enc Try.prog Try.f5.params.toList Rows.learnDownSpec.vars false W args.toList ds gs before) :
    Calls Try.prog 5 args W fun e W' => ∃ v, e = .returned v ∧ Rows.learnDownSpec.post enc Try.prog Try.f5 false true false false W args v W' := by
  have hW' := hW
  obtain ⟨p, q, hA0, hV, rfl, hfz, hnd⟩ := hW
  have hA : DataW.TrodAll enc Try.prog W 0 (fun _ => true) true Try.f5.params.toList args.toList ds p := hA0
  have hlt := hA.lt
  rw [Try.params5] at hA hval
  obtain ⟨v0, vs0, d0, ds0, p0, q0, hargs, rfl, rfl, h0, r0⟩ := trodAll_cons hA
  obtain ⟨v1, vs1, d1, ds1, p1, q1, hvs1, rfl, rfl, h1, r1⟩ := trodAll_cons r0
  obtain ⟨v2, vs2, d2, ds2, p2, q2, hvs2, rfl, rfl, h2, r2⟩ := trodAll_cons r1
  obtain ⟨v3, vs3, d3, ds3, p3, q3, hvs3, rfl, rfl, h3, r3⟩ := trodAll_cons r2
  obtain ⟨hvsn, rfl, rfl⟩ := trodAll_nil r3
  simp only [hvsn, hvs3, hvs2, hvs1] at hargs
  obtain rfl : args = #[v0, v1, v2, v3] := by cases args; simp_all
  obtain ⟨rfl, rfl⟩ := trodVars_none hV
  clear hA0
  obtain ⟨p0a, cap0, l0, rfl, i0, e0⟩ := open_rows Try.underlying22 Try.underlying26 Try.underlying3 (by kernel_rfl) (by kernel_rfl) (hval 0 22 v0 rfl rfl) h0 (fun x hx => hlt x (by simp [hx]))
  obtain ⟨a1, rfl, rfl, rfl, w1⟩ := open_int Try.underlying3 (hval 1 3 v1 rfl rfl) h1
  have b1 := bounds_int w1
  obtain ⟨a2, rfl, rfl, rfl, w2⟩ := open_int Try.underlying3 (hval 2 3 v2 rfl rfl) h2
  have b2 := bounds_int w2
  obtain ⟨a3, rfl, rfl, rfl, w3⟩ := open_int Try.underlying3 (hval 3 3 v3 rfl rfl) h3
  have b3 := bounds_int w3
  exact law_post 4 laid reads rfl Try.underlying4 rfl hW' ⟨rfl, rfl, rfl⟩ (by
    by_cases h : isP a1
    · exact law_good _ _ _ l0 a1 a2 a3 W rfl i0 h
    · exact law_bad _ _ _ l0 a1 a2 a3 W rfl i0 h)

set_option maxRecDepth 100000 in
theorem lifted (os : Os) (started : os.Started) (H : Type) (enc : TypeId × Value → H) :
    ReturnsInHanded {} Try.checked os 5 .any (Rows.learnDownSpec.pre6 enc Try.prog Try.f5 Rows.learnDownRow.domain false) (Rows.learnDownSpec.post enc Try.prog Try.f5 false true false false) := by
  refine returnsInHanded_of_change (C := Try.checked) own started (by kernel_rfl) Try.func5
    (ChangeSpec.witness6 (enc := enc) (C := Try.checked) false ⟨#[], #[.slice none 0 0, .int .i64 0, .int .i64 0, .int .i64 0], []⟩ 8 (by kernel_rfl) (by kernel_rfl) (by kernel_rfl) (by kernel_rfl)) ?_
  intro W base args ds gs before hval hW _ _
  exact contract H enc W base args ds gs before hval hW

theorem proved : Rows.LearnDownSaid :=
  OpenClaim.holds_of_wide 5 Try.f5 rfl rfl rfl rfl rfl rfl rfl ⟨rfl, rfl, rfl, rfl, rfl⟩ rfl rfl rfl rfl rfl (by kernel_rfl) Try.func5 (by kernel_rfl)
    (of_decide_eq_true (by kernel_rfl)) (by unfold Func.isWrapper; first | (rw [if_pos (by decide +kernel)]; kernel_rfl) | (rw [if_neg (by decide +kernel)]; exact ⟨rfl, rfl⟩))
    (fun os started H enc _ => lifted os started H enc)
end Go.Proofs.Ytbgbmchpikdgoaa.LearnDownL
