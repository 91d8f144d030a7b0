/- Package nat, the laws: the closed fact; a table with which something was done. No statement is proved here. -/
import Derived.Test.YtlojehakifagbaaDoorNatOut
import Derived.Test.YtlojehakifagbaaDoorErrSame
import Derived.Test.YtlojehakifagbaaDoorIn4
import Derived.Test.YtlojehakifagbaaDoorRowsAt
import Derived.StillTailTactics
namespace Go.Proofs.YtlojehakifagbaaDoor.Nat_
open Go.ChangeShapes Go.WideShapes Go.ChangeAt Go.RowKit Go.Proofs.YtlojehakifagbaaDoor.Kit Go.Proofs.YtlojehakifagbaaDoor.App Go.Proofs.YtlojehakifagbaaDoor.Cells Go.Proofs.YtlojehakifagbaaDoor.Err Go.Proofs.YtlojehakifagbaaDoor.MapG Go.Proofs.YtlojehakifagbaaDoor.As
set_option linter.unusedVariables false
set_option maxRecDepth 20000
set_option maxHeartbeats 2000000

theorem OutR.first {low many : Nat} {h h' : Int → Option Plc} {x : Plc} {port c q : Int} (H : Tb low many h) (A : OutR low many h x port c h') (hx : good x) (hn : ∀ r, h r ≠ some x) (hq : (low : Int) ≤ q ∧ q < low + many) (h0 : h q = none) (hr : ∀ r : Int, low ≤ r → r < q → h r ≠ none) :
    port = q ∧ c = 0 ∧ h' = upd h q (some x) := OutR.uniq H A (.inr (.inr (.inl ⟨hx, hn, hq, h0, hr, rfl, rfl⟩)))
theorem OutR.full {low many : Nat} {h h' : Int → Option Plc} {x : Plc} {port c : Int} (H : Tb low many h) (A : OutR low many h x port c h') (hx : good x) (hn : ∀ r, h r ≠ some x) (hr : ∀ r : Int, low ≤ r → r < low + many → h r ≠ none) :
    port = 0 ∧ c = 4 ∧ h' = h := OutR.uniq H A (.inr (.inr (.inr ⟨hx, hn, hr, rfl, rfl, rfl⟩)))
theorem OutR.has {low many : Nat} {h h' : Int → Option Plc} {x : Plc} {port c q : Int} (H : Tb low many h) (A : OutR low many h x port c h') (hq : h q = some x) :
    port = q ∧ c = 0 ∧ h' = h := OutR.uniq H A (.inr (.inl ⟨H.fit q x hq, hq, rfl, rfl⟩))
def h0 : Int → Option Plc := fun _ => none
def h1 : Int → Option Plc := upd h0 100 (some ⟨1, 2⟩)
def h2 : Int → Option Plc := upd h1 101 (some ⟨1, 3⟩)
theorem h1_eq (q : Int) : h1 q = if q = 100 then some ⟨1, 2⟩ else none := rfl
theorem h2_eq (q : Int) : h2 q = if q = 101 then some ⟨1, 3⟩ else if q = 100 then some ⟨1, 2⟩ else none := rfl
theorem step1 {h' : Int → Option Plc} {port c : Int} (H : Tb 100 2 h0) (A : OutR 100 2 h0 ⟨1, 2⟩ port c h') : port = 100 ∧ c = 0 ∧ h' = h1 :=
  A.first H (by decide) (fun r e => by cases e) ⟨by omega, by omega⟩ rfl (fun r a b => by omega)
theorem step2 {h' : Int → Option Plc} {port c : Int} (H : Tb 100 2 h1) (A : OutR 100 2 h1 ⟨1, 3⟩ port c h') : port = 101 ∧ c = 0 ∧ h' = h2 :=
  A.first H (by decide) (fun r e => by
    rw [h1_eq] at e
    split at e <;> simp at e) ⟨by omega, by omega⟩ rfl (fun r a b => by
    obtain rfl : r = 100 := by omega
    rw [h1_eq]; simp)
theorem step3 {h' : Int → Option Plc} {port c : Int} (H : Tb 100 2 h2) (A : OutR 100 2 h2 ⟨1, 4⟩ port c h') : port = 0 ∧ c = 4 ∧ h' = h2 :=
  A.full H (by decide) (fun r e => by
    rw [h2_eq] at e
    split at e
    · simp at e
    · split at e <;> simp at e) (fun r a b => by
    rw [h2_eq]
    by_cases e : r = 101
    · simp [e]
    · rw [if_neg e, if_pos (by omega)]; simp)
theorem fact_any (w : World) (hg : Handle w) : Calls Tryd.prog 7 #[] w fun e w' => e = .returned (.bool true) ∧ Below w.heap.size w w' := by
  have hgd : Tryd.prog.eqGuardType Tryd.prog.depth 24 = false := by kernel_rfl
  have hmix : Tryd.prog.follows .mixedOrders = true := by kernel_rfl
  have E : ∀ W, (Op.equalIn 10000 24 (.agg #[.int .i64 1, .int .i64 3]) (.agg #[.int .i64 1, .int .i64 3])).run Tryd.prog W = .ok true W := fun W => by rw [eqX]; rfl
  have C0 := Lib.hid (new_good 100 2 w (by omega) (by omega) (by omega))
  have C1 := Lib.hid (fun b W H => out_any (fun k => k < w.heap.size) b 0 100 2 h0 ⟨1, 2⟩ W H (by omega))
  have C2 := Lib.hid (fun b W H => out_any (fun k => k < w.heap.size) b 1 100 2 h1 ⟨1, 3⟩ W H (by omega))
  have C3 := Lib.hid (fun b W H => out_any (fun k => k < w.heap.size) b 2 100 2 h2 ⟨1, 4⟩ W H (by omega))
  have C4 := Lib.hid (fun b W H => in_any (fun k => k < w.heap.size) b 3 100 2 h2 101 W H (by decide))
  have HG := Lib.hid hg
  clear hg
  go_enter Tryd.func7, Tryd.ntmps7
  go_wp2_with fail
  refine C0.out.mono ?_; rintro e w1 ⟨b, rfl, ht1, hb1⟩
  have HB1 := Lib.hid hb1
  have HT1 := Lib.hid (show Tab (fun k => k < w.heap.size) w1 b 0 100 2 h0 from ht1)
  clear ht1 hb1 C0
  go_wp2_with fail
  refine (C1.out b w1 HT1.out).mono ?_; rintro e w2 ⟨port, c, h', rfl, hR, ht, hk⟩
  obtain ⟨rfl, rfl, rfl⟩ := step1 HT1.out.tb hR
  rw [er_0]
  have HB2 := Lib.hid (HB1.out.trans (hk.below (fun k h => h)))
  have HT2 := Lib.hid ht
  clear hR ht hk HT1 C1 HB1
  go_wp2_with fail
  refine (C2.out b w2 HT2.out).mono ?_; rintro e w3 ⟨port, c, h', rfl, hR, ht, hk⟩
  obtain ⟨rfl, rfl, rfl⟩ := step2 HT2.out.tb hR
  rw [er_0]
  have HB3 := Lib.hid (HB2.out.trans (hk.below (fun k h => h)))
  have HT3 := Lib.hid ht
  clear hR ht hk HT2 C2 HB2
  go_wp2_with fail
  refine (C3.out b w3 HT3.out).mono ?_; rintro e w4 ⟨port, c, h', rfl, hR, ht, hk⟩
  obtain ⟨rfl, rfl, rfl⟩ := step3 HT3.out.tb hR
  have HB4 := Lib.hid (HB3.out.trans (hk.below (fun k h => h)))
  have HT4 := Lib.hid ht
  clear hR ht hk HT3 C3 HB3
  have er4 : ∃ v, er 4 = v := ⟨_, rfl⟩
  obtain ⟨v4, hv4⟩ := er4
  rw [hv4]
  have HV4 := Lib.hid hv4
  clear hv4
  go_wp2_with fail
  refine (C4.out b w4 HT4.out).mono ?_; rintro e w5 ⟨rfl, hb5⟩
  rw [show noneC h2 101 = 0 from rfl, show atOf h2 101 = ⟨1, 3⟩ from rfl, er_0]
  have hbox := Box.new w5 ⟨1, 3⟩ 24
  have HB5 := Lib.hid (balloc (bcall HB4.out hb5) (.cells #[.int .i64 1, .int .i64 3] 24))
  have CE := Lib.hid (fun W (hW : Handle W) => err_same 4 W hW)
  rw [HV4.out] at CE
  have HBOX := Lib.hid hbox
  clear hb5 HB4 HT4 C4 hbox
  go_wp2_with (go_at_call 15
               refine (CE.out _ (HG.out.below HB5.out)).mono ?_; rintro e w6 ⟨rfl, hb6⟩
               have hbox6 := HBOX.out.below hb6 HBOX.out.1
               have c4 := hbox6.2.1
               have c5 := hbox6.2.2
               have HB6 := Lib.hid (bcall HB5.out hb6)
               clear hb6 hbox6)
  go_ret
  exact ⟨rfl, HB6.out⟩
/-- A table with which something was done, whatever it was. -/
theorem did_any (X : Nat → Prop) (b n0 low many : Nat) (h : Int → Option Plc) (p : Option Addr) (cap n : Nat) (ls : List (List Int)) (w0 w : World) (hn : n = ls.length) (hi : RowsI w0 p cap ls) (h0w : Below w0.heap.size w0 w) (hX : ∀ k, k < w0.heap.size → X k) (H : Tab X w b n0 low many h) (hn0 : n0 ≤ 1000) :
    Calls Tryd.prog 10 #[.pointer (some ⟨b, 0, none⟩), .slice p n cap] w fun e w' => e = .returned (.tuple #[]) ∧ ∃ h', Tab X w' b (n0 + 60) low many h' ∧ Keep X w w' := by
  have hlen := hi.len_le
  rw [← hn] at hlen
  have HR := Lib.hid (Drr.rows_both hi)
  have HN := Lib.hid hn
  have HT := Lib.hid H
  have H0 := Lib.hid h0w
  have HX := Lib.hid hX
  clear hi hn H h0w hX
  go_enter Tryd.func10, Tryd.ntmps10
  go_wp2_with fail
  go_loopw [4] (fun iv wr => ∃ (k : Nat) (l : Int → Option Plc), k ≤ n ∧ k ≤ 60 ∧ iv = .int .i64 (k : Int) ∧ Hid (Tab X wr b (n0 + k) low many l) ∧ Hid (Keep X w wr)) (fun i _ => 60 - vN i)
  case atStart => exact ⟨0, h, Nat.zero_le _, Nat.zero_le _, rfl, HT, Lib.hid (Keep.refl X w)⟩
  case round =>
    obtain ⟨k, l, hkn, hk60, rfl, HS, HK⟩ := hrel
    clear HT
    have HB := Lib.hid (H0.out.trans (HK.out.below HX.out))
    by_cases h1 : k < n
    · have u1 : decide ((k : Int) < (n : Int)) = true := decide_eq_true (by omega)
      by_cases h2 : k < 60
      · have u2 : decide ((k : Int) < 60) = true := decide_eq_true (by omega)
        obtain ⟨b1, off, rfl, hr⟩ := HR.out (by rw [← HN.out]; omega)
        obtain ⟨q, c, hlen2, hc⟩ := hr k (by rw [← HN.out]; exact h1)
        clear hr
        generalize Drr.row ls k = x at hlen2 hc
        have HC := Lib.hid hc
        have hq := (HC.out wr HB.out).1
        have hI := Lib.hid (hc w0 (brefl w0)).2
        clear hc
        by_cases h3 : x.length = 2
        · obtain ⟨b2, o2, rfl, hcs⟩ := Drr.ints_both hI.out (by omega)
          have g0 : wr.cell? ⟨b2, o2, none⟩ = some (.int .i64 (x[0]?.getD 0)) := hcs wr HB.out 0 (by omega)
          have g1 : wr.cell? ⟨b2, o2 + 1, none⟩ = some (.int .i64 (x[1]?.getD 0)) := hcs wr HB.out 1 (by omega)
          generalize x[0]?.getD 0 = x0 at g0
          generalize x[1]?.getD 0 = x1 at g1
          have HQ2 := Lib.hid (fun W hW => (HC.out W hW).1)
          rw [h3] at hq HQ2
          clear hcs hI HC h3 hlen2
          have C := Lib.hid (out_any X b (n0 + k) low many l ⟨x0, x1⟩ wr.drew (show Tab X wr.drew b (n0 + k) low many l from HS.out.below ⟨rfl, rfl, rfl, Nat.le_refl _, fun _ _ => rfl⟩) (by omega))
          go_wp2_with fail
          go_still_tail 14, (by kernel_rfl)
          change wpList _ _ _ _ _ wr.drew
          go_wp2_with fail
          refine C.out.mono ?_; rintro e w2 ⟨port, cc, l2, rfl, hR, hs, hk⟩
          have HS2 := Lib.hid (hs.mono (n' := n0 + (k + 1)) (by omega))
          have HK2 := Lib.hid (HK.out.trans (show Keep X wr w2 from ⟨hk.os, hk.tape, hk.output, hk.size, hk.block⟩))
          have hq2 := HQ2.out w2 (H0.out.trans (HK2.out.below HX.out))
          generalize er cc = ve
          clear C hs hk HS HB HK HQ2 g0 g1 hq hR
          go_wp2_with fail
          go_roundw
          case rel => exact ⟨k + 1, l2, by omega, by omega, by first | rfl | go_num, HS2, HK2⟩
          case measure => simp [vN]; omega
        · by_cases h4 : x.length = 1
          · obtain ⟨b2, o2, rfl, hcs⟩ := Drr.ints_both hI.out (by omega)
            have g0 : wr.cell? ⟨b2, o2, none⟩ = some (.int .i64 (x[0]?.getD 0)) := hcs wr HB.out 0 (by omega)
            have hw0 := hI.out.2.2.1 0
            generalize x[0]?.getD 0 = x0 at g0 hw0
            rw [h4] at hq
            clear hcs hI HC h3 h4 hlen2
            have C := Lib.hid (drop_any X b (n0 + k) low many l x0 wr HS.out hw0)
            generalize er (noneC l x0) = ve at C
            go_wp2_with fail
            refine C.out.mono ?_; rintro e w2 ⟨rfl, hs, hk⟩
            have HS2 := Lib.hid (hs.mono (n' := n0 + (k + 1)) (by omega))
            have HK2 := Lib.hid (HK.out.trans hk)
            clear C hs hk HS HB HK g0 hq hw0
            go_wp2_with fail
            go_roundw
            case rel => exact ⟨k + 1, _, by omega, by omega, by first | rfl | go_num, HS2, HK2⟩
            case measure => simp [vN]; omega
          · obtain ⟨m, hm⟩ : ∃ m, x.length = m := ⟨_, rfl⟩
            rw [hm] at hq hlen2 h3 h4
            have u3 : ((m : Int) == 2) = false := by rw [beq_eq_false_iff_ne]; omega
            have u4 : ((m : Int) == 1) = false := by rw [beq_eq_false_iff_ne]; omega
            have HS2 := Lib.hid (HS.out.mono (n' := n0 + (k + 1)) (by omega))
            clear hm h3 h4 HC hI
            go_wp2_with fail
            go_roundw
            case rel => exact ⟨k + 1, l, by omega, by omega, by first | rfl | go_num, HS2, HK⟩
            case measure => simp [vN]; omega
      · have u2 : decide ((k : Int) < 60) = false := decide_eq_false (by omega)
        go_wp2_with fail
        go_end0
        exact ⟨rfl, l, HS.out.mono (by omega), HK.out⟩
    · have u1 : decide ((k : Int) < (n : Int)) = false := decide_eq_false (by omega)
      go_wp2_with fail
      go_end0
      exact ⟨rfl, l, HS.out.mono (by omega), HK.out⟩
end Go.Proofs.YtlojehakifagbaaDoor.Nat_
