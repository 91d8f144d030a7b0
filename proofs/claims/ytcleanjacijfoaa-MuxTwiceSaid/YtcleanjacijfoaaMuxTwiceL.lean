/- What was read is not read again: the law returns true for every input. No condition. -/
import Derived.Test.YtcleanjacijfoaaMuxFact
import Derived.Test.YtcleanjacijfoaaMuxLawM
namespace Go.Proofs.Ytcleanjacijfoaa.MuxTwiceL
open Go.ChangeShapes Go.WideShapes Go.ChangeAt Go.RowKit
open Go.Proofs.Ytcleanjacijfoaa.Kit Go.Proofs.Ytcleanjacijfoaa.App Go.Proofs.Ytcleanjacijfoaa.Cells Go.Proofs.Ytcleanjacijfoaa.Err Go.Proofs.Ytcleanjacijfoaa.Mux
set_option linter.unusedVariables false
set_option maxRecDepth 20000
set_option maxHeartbeats 2000000

theorem law_any (p : Option Addr) (cap : Nat) (ls : List Frm) (st : Int) (w : World) (hi : CI lay w p cap ls) :
    Calls Try.prog 5 #[.slice p ls.length cap, .int .i64 st] w fun e w' => e = .returned (.bool true) ∧ Below w.heap.size w w' := by
  have FA := Lib.hid (fact_any w)
  have HI := Lib.hid hi
  have hlen := hi.len_le
  have HOk := Lib.hid (show Okm z0 z0 from Okm.zero)
  clear hi
  go_enter Try.func5, Try.ntmps5
  go_wp2_with fail
  refine FA.out.mono ?_; rintro e w1 ⟨rfl, hb1⟩
  have HB1 := Lib.hid hb1
  have HI1 := Lib.hid (HI.out.below hb1)
  clear hb1 HI FA
  go_wp2_with fail
  refine (new_any _).mono ?_; rintro e w2 ⟨rfl, hE, hb2⟩
  obtain ⟨g, hg⟩ : ∃ g, w1.heap.size = g := ⟨_, rfl⟩
  rw [hg] at hE ⊢
  have HE2 := Lib.hid (show Mux.Ends w2 g z0 z0 from hE)
  have HI2 := Lib.hid (HI1.out.below hb2)
  have HB2 := Lib.hid (bcall HB1.out hb2)
  have HG : Hid (w.heap.size ≤ g) := Lib.hid (by rw [← hg]; exact HB1.out.size)
  have HG2 : Hid (∀ a, p = some a → 0 < ls.length → a.block < g) := Lib.hid (fun a ha h0 => by
    obtain ⟨b, off, e, hb, _⟩ := HI1.out.2.2 h0
    rw [e] at ha
    injection ha with ha
    rw [← ha, ← hg]
    exact hb)
  clear hE hb2 hg HI1 HB1
  go_wp2_with fail
  obtain ⟨n, hn⟩ : ∃ n, ls.length = n := ⟨_, rfl⟩
  rw [hn] at hlen HG2 ⊢
  have HN := Lib.hid hn
  clear hn
  go_loopw [7] (fun iv wr => ∃ (k : Nat) (d : Nat → Nat), k ≤ n ∧ iv = .int .i64 (k : Int) ∧ Hid (Mux.Ends wr g d z0) ∧ Hid (Okm d z0) ∧ Hid (w2.grownBy wr (some g))) (fun i _ => n - (intOf i).toNat)
  case atStart => exact ⟨0, z0, Nat.zero_le _, rfl, HE2, HOk, Lib.hid (grefl _ _)⟩
  case round =>
    obtain ⟨k, d, hk, rfl, HE, HO, HW⟩ := hrel
    clear HE2 HOk
    by_cases hlt : k < n ∧ k < 30
    · obtain ⟨h1, h2⟩ := hlt
      have u1 : decide ((k : Int) < (n : Int)) = true := decide_eq_true (by omega)
      have u2 : decide ((k : Int) < 30) = true := decide_eq_true (by omega)
      obtain ⟨b, off, rfl, hbl, hc⟩ := HI2.out.2.2 (by rw [HN.out]; omega)
      have hbg : b < g := HG2.out _ rfl (by omega)
      obtain ⟨x, hx⟩ : ∃ x, ls[k]? = some x := ⟨_, List.getElem?_eq_getElem (by rw [HN.out]; exact h1)⟩
      have hkeep : wr.heap[b]? = w2.heap[b]? := HW.out.block b hbl (by simp; omega)
      have q0 : wr.cell? ⟨b, off + k * 3, none⟩ = some (.int .i64 x.st) := (World.cell?_of_block (w := w2) (a := ⟨b, off + k * 3, none⟩) hkeep).trans (hc k x hx 0 _ rfl)
      have q1 : wr.cell? ⟨b, off + k * 3 + 1, none⟩ = some (.int .i64 x.pos) := (World.cell?_of_block (w := w2) (a := ⟨b, off + k * 3 + 1, none⟩) hkeep).trans (hc k x hx 1 _ rfl)
      have q2 : wr.cell? ⟨b, off + k * 3 + 2, none⟩ = some (.string x.dat) := (World.cell?_of_block (w := w2) (a := ⟨b, off + k * 3 + 2, none⟩) hkeep).trans (hc k x hx 2 _ rfl)
      obtain ⟨cc, hcc⟩ : ∃ cc, codeM d x = cc := ⟨_, rfl⟩
      obtain ⟨D, hD⟩ : ∃ D, putM d x = D := ⟨_, rfl⟩
      have P := Lib.hid (put_any g d z0 x wr HE.out cc hcc D hD)
      have HO2 : Hid (Okm D z0) := Lib.hid (by rw [← hD]; exact HO.out.put x)
      unfold val at P
      clear hc hx hkeep hcc hD
      obtain ⟨xa, xb, xs⟩ := x
      simp only at q0 q1 q2 P
      go_wp2_with fail
      refine P.out.mono ?_; rintro e w3 ⟨rfl, hE3, hg3⟩
      have HE3 := Lib.hid hE3
      have HW3 := Lib.hid (gtrans HW.out hg3)
      generalize er cc = ev
      clear hE3 hg3 P q0 q1 q2
      go_wp2_with fail
      go_roundw
      case rel => exact ⟨k + 1, D, by omega, by first | rfl | go_num, HE3, HO2, HW3⟩
      case measure => simp [intOf]; omega
    · by_cases h1 : k < n
      · have u1 : decide ((k : Int) < (n : Int)) = true := decide_eq_true (by omega)
        have u2 : decide ((k : Int) < 30) = false := decide_eq_false (by omega)
        clear hlt
        have HB3 := Lib.hid (gb HB2.out HW.out HG.out)
        clear HW HB2 HI2 HG2
        by_cases hs : isS st
        · have hcr : codeR st = 0 := by unfold codeR; rw [if_pos hs]
          obtain ⟨t1, t2, t3, t4⟩ := read_twice HO.out hs
          obtain ⟨sa, hsa⟩ : ∃ sa, textM d z0 st = sa := ⟨_, rfl⟩
          obtain ⟨S, hS⟩ : ∃ S, readR d z0 st = S := ⟨_, rfl⟩
          obtain ⟨V, hV⟩ : ∃ V, waitM d z0 st = V := ⟨_, rfl⟩
          obtain ⟨V2, hV2⟩ : ∃ V2, waitM d S st = V2 := ⟨_, rfl⟩
          have hb1 := waitM_in d z0 st
          have hb2 := waitM_in d S st
          have HO2 : Hid (Okm d S) := Lib.hid (by rw [← hS]; exact HO.out.read st)
          rw [hS] at t2 t3 t4
          rw [hsa, hV, hV2] at t4
          rw [hV] at hb1
          rw [hV2] at hb2
          obtain ⟨z, hz⟩ : ∃ z, sa.size = z := ⟨_, rfl⟩
          rw [hz] at t4
          have hz2 : (sa.size : Int) = (z : Int) := by rw [hz]
          have W1 := Lib.hid (fun W (H : Mux.Ends W g d z0) => waits_any g d z0 st W H HO.out V hV)
          have R1 := Lib.hid (fun W (H : Mux.Ends W g d z0) => read_any g d z0 HO.out st W H sa hsa 0 hcr S hS)
          have W2 := Lib.hid (fun W (H : Mux.Ends W g d S) => waits_any g d S st W H HO2.out V2 hV2)
          have R2 := Lib.hid (fun W (H : Mux.Ends W g d S) => read_any g d S HO2.out st W H _ t2 0 hcr S t3)
          rw [er_0] at R1 R2
          have y1 : wrap64 (V - (z : Int)) = V2 := by rw [show V - (z : Int) = V2 by omega]; unfold wrap64; omega
          have y2 : (V2 == V2) = true := by simp
          clear t1 t2 t3 t4 hsa hS hV hV2 hcr hz hs HO HO2
          go_wp2_with fail
          refine (W1.out _ HE.out).mono ?_; rintro e w4 ⟨rfl, hb⟩
          have HE4 := Lib.hid (HE.out.below hb)
          have HB4 := Lib.hid (bcall HB3.out hb)
          clear hb HE HB3 W1
          go_wp2_with fail
          refine (R1.out _ HE4.out).mono ?_; rintro e w5 ⟨rfl, hE, hg⟩
          have HE5 := Lib.hid hE
          have HB5 := Lib.hid (gb HB4.out hg HG.out)
          clear hE hg HE4 HB4 R1
          go_wp2_with fail
          refine (W2.out _ HE5.out).mono ?_; rintro e w6 ⟨rfl, hb⟩
          have HE6 := Lib.hid (HE5.out.below hb)
          have HB6 := Lib.hid (bcall HB5.out hb)
          clear hb HE5 HB5
          go_wp2_with fail
          refine (R2.out _ HE6.out).mono ?_; rintro e w7 ⟨rfl, hE, hg⟩
          have HE7 := Lib.hid hE
          have HB7 := Lib.hid (gb HB6.out hg HG.out)
          clear hE hg HE6 HB6 R2
          go_wp2_with fail
          refine (W2.out _ HE7.out).mono ?_; rintro e w8 ⟨rfl, hb⟩
          have HB8 := Lib.hid (bcall HB7.out hb)
          clear hb HE7 HB7 W2
          go_wp2_with fail
          go_ret
          exact ⟨rfl, HB8.out⟩
        · have hcr : codeR st = 1 := by unfold codeR; rw [if_neg hs]
          have hV : waitM d z0 st = 0 := by unfold waitM; rw [if_neg hs]
          have W1 := Lib.hid (fun W (H : Mux.Ends W g d z0) => waits_any g d z0 st W H HO.out 0 hV)
          have R1 := Lib.hid (fun W (H : Mux.Ends W g d z0) => read_any g d z0 HO.out st W H _ rfl 1 hcr _ rfl)
          rw [er_1] at R1
          have IN := Lib.hid (fun W => Ring.in_any st 0 3 W false (in_false hs))
          generalize textM d z0 st = ta at R1
          generalize readR d z0 st = S at R1
          clear hV hcr hs HO
          go_wp2_with fail
          refine (W1.out _ HE.out).mono ?_; rintro e w4 ⟨rfl, hb⟩
          have HE4 := Lib.hid (HE.out.below hb)
          have HB4 := Lib.hid (bcall HB3.out hb)
          clear hb HE HB3 W1
          go_wp2_with fail
          refine (R1.out _ HE4.out).mono ?_; rintro e w5 ⟨rfl, hE, hg⟩
          have HB5 := Lib.hid (gb HB4.out hg HG.out)
          clear hE hg HE4 HB4 R1
          go_wp2_with fail
          refine (IN.out _).mono ?_; rintro e w6 ⟨rfl, rfl⟩
          go_wp2_with fail
          go_ret
          exact ⟨rfl, HB5.out⟩

      · have u1 : decide ((k : Int) < (n : Int)) = false := decide_eq_false (by omega)
        clear hlt
        have HB3 := Lib.hid (gb HB2.out HW.out HG.out)
        clear HW HB2 HI2 HG2
        by_cases hs : isS st
        · have hcr : codeR st = 0 := by unfold codeR; rw [if_pos hs]
          obtain ⟨t1, t2, t3, t4⟩ := read_twice HO.out hs
          obtain ⟨sa, hsa⟩ : ∃ sa, textM d z0 st = sa := ⟨_, rfl⟩
          obtain ⟨S, hS⟩ : ∃ S, readR d z0 st = S := ⟨_, rfl⟩
          obtain ⟨V, hV⟩ : ∃ V, waitM d z0 st = V := ⟨_, rfl⟩
          obtain ⟨V2, hV2⟩ : ∃ V2, waitM d S st = V2 := ⟨_, rfl⟩
          have hb1 := waitM_in d z0 st
          have hb2 := waitM_in d S st
          have HO2 : Hid (Okm d S) := Lib.hid (by rw [← hS]; exact HO.out.read st)
          rw [hS] at t2 t3 t4
          rw [hsa, hV, hV2] at t4
          rw [hV] at hb1
          rw [hV2] at hb2
          obtain ⟨z, hz⟩ : ∃ z, sa.size = z := ⟨_, rfl⟩
          rw [hz] at t4
          have hz2 : (sa.size : Int) = (z : Int) := by rw [hz]
          have W1 := Lib.hid (fun W (H : Mux.Ends W g d z0) => waits_any g d z0 st W H HO.out V hV)
          have R1 := Lib.hid (fun W (H : Mux.Ends W g d z0) => read_any g d z0 HO.out st W H sa hsa 0 hcr S hS)
          have W2 := Lib.hid (fun W (H : Mux.Ends W g d S) => waits_any g d S st W H HO2.out V2 hV2)
          have R2 := Lib.hid (fun W (H : Mux.Ends W g d S) => read_any g d S HO2.out st W H _ t2 0 hcr S t3)
          rw [er_0] at R1 R2
          have y1 : wrap64 (V - (z : Int)) = V2 := by rw [show V - (z : Int) = V2 by omega]; unfold wrap64; omega
          have y2 : (V2 == V2) = true := by simp
          clear t1 t2 t3 t4 hsa hS hV hV2 hcr hz hs HO HO2
          go_wp2_with fail
          refine (W1.out _ HE.out).mono ?_; rintro e w4 ⟨rfl, hb⟩
          have HE4 := Lib.hid (HE.out.below hb)
          have HB4 := Lib.hid (bcall HB3.out hb)
          clear hb HE HB3 W1
          go_wp2_with fail
          refine (R1.out _ HE4.out).mono ?_; rintro e w5 ⟨rfl, hE, hg⟩
          have HE5 := Lib.hid hE
          have HB5 := Lib.hid (gb HB4.out hg HG.out)
          clear hE hg HE4 HB4 R1
          go_wp2_with fail
          refine (W2.out _ HE5.out).mono ?_; rintro e w6 ⟨rfl, hb⟩
          have HE6 := Lib.hid (HE5.out.below hb)
          have HB6 := Lib.hid (bcall HB5.out hb)
          clear hb HE5 HB5
          go_wp2_with fail
          refine (R2.out _ HE6.out).mono ?_; rintro e w7 ⟨rfl, hE, hg⟩
          have HE7 := Lib.hid hE
          have HB7 := Lib.hid (gb HB6.out hg HG.out)
          clear hE hg HE6 HB6 R2
          go_wp2_with fail
          refine (W2.out _ HE7.out).mono ?_; rintro e w8 ⟨rfl, hb⟩
          have HB8 := Lib.hid (bcall HB7.out hb)
          clear hb HE7 HB7 W2
          go_wp2_with fail
          go_ret
          exact ⟨rfl, HB8.out⟩
        · have hcr : codeR st = 1 := by unfold codeR; rw [if_neg hs]
          have hV : waitM d z0 st = 0 := by unfold waitM; rw [if_neg hs]
          have W1 := Lib.hid (fun W (H : Mux.Ends W g d z0) => waits_any g d z0 st W H HO.out 0 hV)
          have R1 := Lib.hid (fun W (H : Mux.Ends W g d z0) => read_any g d z0 HO.out st W H _ rfl 1 hcr _ rfl)
          rw [er_1] at R1
          have IN := Lib.hid (fun W => Ring.in_any st 0 3 W false (in_false hs))
          generalize textM d z0 st = ta at R1
          generalize readR d z0 st = S at R1
          clear hV hcr hs HO
          go_wp2_with fail
          refine (W1.out _ HE.out).mono ?_; rintro e w4 ⟨rfl, hb⟩
          have HE4 := Lib.hid (HE.out.below hb)
          have HB4 := Lib.hid (bcall HB3.out hb)
          clear hb HE HB3 W1
          go_wp2_with fail
          refine (R1.out _ HE4.out).mono ?_; rintro e w5 ⟨rfl, hE, hg⟩
          have HB5 := Lib.hid (gb HB4.out hg HG.out)
          clear hE hg HE4 HB4 R1
          go_wp2_with fail
          refine (IN.out _).mono ?_; rintro e w6 ⟨rfl, rfl⟩
          go_wp2_with fail
          go_ret
          exact ⟨rfl, HB5.out⟩


theorem reads : Try.f5.params.toList.all (fun t => Try.prog.readableRec t && decide (t < Try.prog.types.size)) = true := by kernel_rfl

theorem contract (H : Type) (enc : TypeId × Value → H) (W : World) (base : Nat) (args : Array Value) (ds gs : List (DataW H)) (before : List MemPlace)
    (hval : ∀ (j : Nat) t v, Try.f5.params[j]? = some t → args[j]? = some v → Value.okWide Try.prog W .any base t v)
    (hW : DataW.Whole enc Try.prog Try.f5.params.toList Rows.muxTwiceSpec.vars false W args.toList ds gs before) :
    Calls Try.prog 5 args W fun e W' => ∃ v, e = .returned v ∧ Rows.muxTwiceSpec.post enc Try.prog Try.f5 false true false false W args v W' := by
  have hW' := hW
  obtain ⟨p, q, hA0, hV, rfl, hfz, hnd⟩ := hW
  have hA : DataW.TrodAll enc Try.prog W 0 (fun _ => true) true Try.f5.params.toList args.toList ds p := hA0
  have hlt := hA.lt
  rw [Try.params5] at hA hval
  obtain ⟨v0, vs0, d0, ds0, p0, q0, hargs, rfl, rfl, h0, r0⟩ := trodAll_cons hA
  obtain ⟨v1, vs1, d1, ds1, p1, q1, hvs1, rfl, rfl, h1, r1⟩ := trodAll_cons r0
  obtain ⟨hvsn, rfl, rfl⟩ := trodAll_nil r1
  simp only [hvsn, hvs1] at hargs
  obtain rfl : args = #[v0, v1] := by cases args; simp_all
  obtain ⟨rfl, rfl⟩ := trodVars_none hV
  clear hA0
  obtain ⟨p0a, cap0, l0, rfl, i0, f0, e0⟩ := Go.Proofs.Ytcleanjacijfoaa.Mux.open_frames (hval 0 37 v0 rfl rfl) h0 (fun x hx => hlt x (by simp [hx]))
  obtain ⟨a1, rfl, rfl, rfl, w1⟩ := open_int Try.underlying3 (hval 1 3 v1 rfl rfl) h1
  have b1 := bounds_int w1
  exact law_post 4 laid reads rfl Try.underlying4 rfl hW' ⟨rfl, rfl, rfl⟩ (law_any p0a cap0 l0 a1 W i0)

set_option maxRecDepth 100000 in
theorem lifted (os : Os) (started : os.Started) (H : Type) (enc : TypeId × Value → H) :
    ReturnsInHanded {} Try.checked os 5 .any (Rows.muxTwiceSpec.pre6 enc Try.prog Try.f5 Rows.muxTwiceRow.domain false) (Rows.muxTwiceSpec.post enc Try.prog Try.f5 false true false false) := by
  refine returnsInHanded_of_change (C := Try.checked) own started (by kernel_rfl) Try.func5
    (ChangeSpec.witness6 (enc := enc) (C := Try.checked) false ⟨#[], #[.slice none 0 0, .int .i64 0], []⟩ 8 (by kernel_rfl) (by kernel_rfl) (by kernel_rfl) (by kernel_rfl)) ?_
  intro W base args ds gs before hval hW _ _
  exact contract H enc W base args ds gs before hval hW

theorem proved : Rows.MuxTwiceSaid :=
  OpenClaim.holds_of_wide 5 Try.f5 rfl rfl rfl rfl rfl rfl rfl ⟨rfl, rfl, rfl, rfl, rfl⟩ rfl rfl rfl rfl rfl (by kernel_rfl) Try.func5 (by kernel_rfl)
    (of_decide_eq_true (by kernel_rfl)) (by unfold Func.isWrapper; first | (rw [if_pos (by decide +kernel)]; kernel_rfl) | (rw [if_neg (by decide +kernel)]; exact ⟨rfl, rfl⟩))
    (fun os started H enc _ => lifted os started H enc)
end Go.Proofs.Ytcleanjacijfoaa.MuxTwiceL
