/- RetryBegins: additional random numbers do not change earlier transmissions: for every input. No condition. -/
import Derived.Test.YteggajhpjdidcaaRetryFact
import Derived.Test.YteggajhpjdidcaaIn4
namespace Go.Proofs.Yteggajhpjdidcaa.RetryBeginsL
open Go.ChangeShapes Go.WideShapes Go.ChangeAt Go.RowKit Go.Proofs.Yteggajhpjdidcaa.Kit Go.Proofs.Yteggajhpjdidcaa.App Go.Proofs.Yteggajhpjdidcaa.Err Go.Proofs.Yteggajhpjdidcaa.RetryMath Go.Proofs.Yteggajhpjdidcaa.Retry
set_option linter.unusedVariables false
set_option maxRecDepth 20000
set_option maxHeartbeats 4000000
theorem ints_take {w : World} {p : Option Addr} {cap : Nat} {l : List Int} (h : Ints w p cap l) (k : Nat) : Ints w p cap (l.take k) := by
  have hl : (l.take k).length ≤ l.length := by rw [List.length_take]; omega
  refine ⟨Nat.le_trans hl h.1, h.2.1, fun j => ?_, fun hn => ?_⟩
  · by_cases hj : j < k
    · rw [List.getElem?_take, if_pos hj]; exact h.2.2.1 j
    · rw [List.getElem?_take, if_neg hj]; exact wf_zero
  · obtain ⟨b, off, e, hb, hc⟩ := h.2.2.2 (by omega)
    refine ⟨b, off, e, hb, fun j hj => ?_⟩
    rw [hc j (by omega), List.getElem?_take, if_pos (by rw [List.length_take] at hj; omega)]
set_option maxHeartbeats 1000000 in
abbrev Law (x : Int) (p : Option Addr) (cap n : Nat) (y : Int) (w : World) : Prop := Calls Try.prog 5 #[.int .i64 x, .slice p n cap, .int .i64 y] w fun e w' => e = .returned (.bool true) ∧ Below w.heap.size w w'
theorem law_out (x : Int) (p : Option Addr) (cap n : Nat) (l : List Int) (y : Int) (w : World) (hn : n = l.length) (hi : Ints w p cap l) (h : ¬ (0 ≤ y ∧ y ≤ (n : Int))) : Law x p cap n y w := by
  have hlen := hi.len_le
  rw [← hn] at hlen
  have IN := Lib.hid (fun W => Ring.in_any y 0 (n : Int) W false (in_false h))
  clear hn hi h
  have FA := Lib.hid (Retry.fact_any w)
  unfold Law
  go_enter Try.func5, Try.ntmps5
  go_wp2_with fail
  refine FA.out.mono ?_; rintro e w1 ⟨rfl, hb1⟩
  have HB1 := Lib.hid hb1
  clear FA hb1
  go_wp2_with fail
  refine (IN.out w1).mono ?_; rintro e w3 ⟨rfl, hw3⟩
  rw [hw3]
  clear hw3 w3
  go_wp2_with fail
  go_ret
  exact ⟨by first | rfl | simp, HB1.out⟩
theorem law_bad (x : Int) (p : Option Addr) (cap n : Nat) (l : List Int) (k : Nat) (w : World) (hn : n = l.length) (hi : Ints w p cap l) (hk : k ≤ n) (c : Int) (hc : code x l = c) (h0 : c ≠ 0) : Law x p cap n (k : Int) w := by
  have hlen := hi.len_le
  rw [← hn] at hlen
  have IN := Lib.hid (fun W => Ring.in_any (k : Int) 0 (n : Int) W true (in_true ⟨by omega, by omega⟩))
  have RB := Lib.hid (fun W (hW : Below w.heap.size w W) => run_bad x p cap n l W hn (hi.below hW) c hc h0)
  rw [er_ne h0] at RB
  clear hn hi hc h0
  have FA := Lib.hid (Retry.fact_any w)
  unfold Law
  go_enter Try.func5, Try.ntmps5
  go_wp2_with fail
  refine FA.out.mono ?_; rintro e w1 ⟨rfl, hb1⟩
  have HB1 := Lib.hid hb1
  clear FA hb1
  go_wp2_with fail
  refine (IN.out w1).mono ?_; rintro e w3 ⟨rfl, hw3⟩
  rw [hw3]
  clear hw3 w3
  go_wp2_with fail
  refine (RB.out w1 HB1.out).mono ?_; rintro e w2 ⟨rfl, hb⟩
  have HB2 := Lib.hid (bcall HB1.out hb)
  clear RB HB1 hb
  go_wp2_with fail
  go_ret
  exact ⟨by first | rfl | simp, HB2.out⟩
theorem law_good (x : Nat) (p : Option Addr) (cap n : Nat) (l : List Int) (k : Nat) (w : World) (hn : n = l.length) (hi : Ints w p cap l) (hk : k ≤ n) (g : Retry.Good x l) : Law (x : Int) p cap n (k : Int) w := by
  have hlen := hi.len_le
  rw [← hn] at hlen
  have hcap : n ≤ cap := by have := hi.1; omega
  have hkc : k ≤ cap := by omega
  have IN := Lib.hid (fun W => Ring.in_any (k : Int) 0 (n : Int) W true (in_true ⟨by omega, by omega⟩))
  have hx5 := g.up
  have hs1 := sent_len (n := x) (l := l)
  have hs2 := sent_take_len (n := x) (l := l) k
  have wt := who_take (n := x) (l := l) k
  have st := slots_take (n := x) (l := l) k
  obtain ⟨m, hm⟩ : ∃ m, (sent x l).length = m := ⟨_, rfl⟩
  obtain ⟨m2, hm2⟩ : ∃ m, (sent x (l.take k)).length = m := ⟨_, rfl⟩
  have RG := Lib.hid (fun W (hW : Below w.heap.size w W) => run_good x p cap n l W hn (hi.below hW) g m hm)
  have RH := Lib.hid (fun W (hW : Below w.heap.size w W) => run_good x p cap k (l.take k) W (by rw [List.length_take]; omega) (ints_take (hi.below hW) k) (g.take k) m2 hm2)
  have hlw : (who x l).length = m := by rw [who_len, hm]
  have hls : (Retry.slots x l).length = m := by rw [slots_len, hm]
  rw [hm, hm2] at hs2
  rw [hm] at hs1
  rw [hm2] at wt st
  rw [wt, st] at RH
  obtain ⟨A, hA⟩ : ∃ A, who x l = A := ⟨_, rfl⟩
  obtain ⟨B, hB⟩ : ∃ B, Retry.slots x l = B := ⟨_, rfl⟩
  rw [hA] at RG RH hlw
  rw [hB] at RG RH hls
  have HLW := Lib.hid hlw
  have HLS := Lib.hid hls
  have HM2 := Lib.hid hs2
  have t1 : decide ((m2 : Int) ≤ (m : Int)) = true := decide_eq_true (by omega)
  have t1n : decide (m2 ≤ m) = true := decide_eq_true hs2
  clear hn hi g hm hm2 wt st hA hB hlw hls
  have FA := Lib.hid (Retry.fact_any w)
  unfold Law
  go_enter Try.func5, Try.ntmps5
  go_wp2_with fail
  refine FA.out.mono ?_; rintro e w1 ⟨rfl, hb1⟩
  have HB1 := Lib.hid hb1
  clear FA hb1
  go_wp2_with fail
  refine (IN.out w1).mono ?_; rintro e w3 ⟨rfl, hw3⟩
  rw [hw3]
  clear hw3 w3
  go_wp2_with fail
  refine (RG.out w1 HB1.out).mono ?_; rintro e w2 ⟨⟨r, cr, r2, cr2, rfl, ir, ir2⟩, hb⟩
  have HB2 := Lib.hid (bcall HB1.out hb)
  have hcr : m ≤ cr := by have := ir.1; have := HLW.out; omega
  have hcr2 : m ≤ cr2 := by have := ir2.1; have := HLS.out; omega
  have IR := Lib.hid ir
  have IR2 := Lib.hid ir2
  clear RG HB1 ir ir2 hb
  go_wp2_with fail
  refine (RH.out w2 HB2.out).mono ?_; rintro e w3 ⟨⟨q, cq, q2, cq2, rfl, iq, iq2⟩, hb⟩
  have HB3 := Lib.hid (bcall HB2.out hb)
  have HM := Lib.hid (show m2 = (A.take m2).length ∧ m2 = (B.take m2).length from by
    have h1 := HLW.out
    have h2 := HLS.out
    have h3 := HM2.out
    rw [List.length_take, List.length_take]; omega)
  have S1 := Lib.hid (ints_any r q cr cq m2 m2 (A.take m2) (A.take m2) w3 HM.out.1 HM.out.1 (ints_take (IR.out.below hb) m2) iq true (by simp))
  have S2 := Lib.hid (fun W (hW : Below w3.heap.size w3 W) => ints_any r2 q2 cr2 cq2 m2 m2 (B.take m2) (B.take m2) W HM.out.2 HM.out.2 (ints_take ((IR2.out.below hb).below hW) m2) (iq2.below hW) true (by simp))
  have hm2c : m2 ≤ cr := by omega
  have hm2c2 : m2 ≤ cr2 := by omega
  clear RH HB2 IR IR2 iq iq2 hb
  go_wp2_with fail
  refine S1.out.mono ?_; rintro e w4 ⟨rfl, hb⟩
  have HB4 := Lib.hid (bcall HB3.out hb)
  have S3 := Lib.hid (S2.out w4 hb)
  clear S1 S2 HB3 hb
  go_wp2_with fail
  refine S3.out.mono ?_; rintro e w5 ⟨rfl, hb⟩
  have HB5 := Lib.hid (bcall HB4.out hb)
  clear S3 HB4 hb
  go_wp2_with fail
  go_ret
  exact ⟨by first | rfl | simp, HB5.out⟩
theorem law_any (x : Int) (p : Option Addr) (cap n : Nat) (l : List Int) (y : Int) (w : World) (hn : n = l.length) (hi : Ints w p cap l) : Law x p cap n y w := by
  by_cases h : 0 ≤ y ∧ y ≤ (n : Int)
  · obtain ⟨k, rfl⟩ : ∃ k : Nat, y = (k : Int) := ⟨y.toNat, by omega⟩
    by_cases hc : code x l = 0
    · obtain ⟨m, rfl, g⟩ := code_zero hc
      exact law_good m p cap n l k w hn hi (by omega) g
    · exact law_bad x p cap n l k w hn hi (by omega) _ rfl hc
  · exact law_out x p cap n l y w hn hi h

theorem reads : Try.f5.params.toList.all (fun t => Try.prog.readableRec t && decide (t < Try.prog.types.size)) = true := by kernel_rfl

theorem contract (H : Type) (enc : TypeId × Value → H) (W : World) (base : Nat) (args : Array Value) (ds gs : List (DataW H)) (before : List MemPlace)
    (hval : ∀ (j : Nat) t v, Try.f5.params[j]? = some t → args[j]? = some v → Value.okWide Try.prog W .any base t v)
    (hW : DataW.Whole enc Try.prog Try.f5.params.toList Rows.retryBeginsSpec.vars false W args.toList ds gs before) :
    Calls Try.prog 5 args W fun e W' => ∃ v, e = .returned v ∧ Rows.retryBeginsSpec.post enc Try.prog Try.f5 false true false false W args v W' := by
  have hW' := hW
  obtain ⟨p, q, hA0, hV, rfl, hfz, hnd⟩ := hW
  have hA : DataW.TrodAll enc Try.prog W 0 (fun _ => true) true Try.f5.params.toList args.toList ds p := hA0
  have hlt := hA.lt
  rw [Try.params5] at hA hval
  obtain ⟨v0, vs0, d0, ds0, p0, q0, hargs, rfl, rfl, h0, r0⟩ := trodAll_cons hA
  obtain ⟨v1, vs1, d1, ds1, p1, q1, hvs1, rfl, rfl, h1, r1⟩ := trodAll_cons r0
  obtain ⟨v2, vs2, d2, ds2, p2, q2, hvs2, rfl, rfl, h2, r2⟩ := trodAll_cons r1
  obtain ⟨hvsn, rfl, rfl⟩ := trodAll_nil r2
  simp only [hvsn, hvs2, hvs1] at hargs
  obtain rfl : args = #[v0, v1, v2] := by cases args; simp_all
  obtain ⟨rfl, rfl⟩ := trodVars_none hV
  clear hA0
  obtain ⟨a0, rfl, rfl, rfl, w0⟩ := open_int Try.underlying3 (hval 0 3 v0 rfl rfl) h0
  have b0 := bounds_int w0
  obtain ⟨p1a, cap1, l1, rfl, i1⟩ := open_intsl Try.underlying22 Try.underlying3 (by kernel_rfl) (hval 1 22 v1 rfl rfl) h1 (fun x hx => hlt x (by simp [hx]))
  obtain ⟨a2, rfl, rfl, rfl, w2⟩ := open_int Try.underlying3 (hval 2 3 v2 rfl rfl) h2
  have b2 := bounds_int w2
  exact law_post 4 laid reads rfl Try.underlying4 rfl hW' ⟨rfl, rfl, rfl⟩ (law_any a0 p1a _ _ l1 a2 W rfl i1)

set_option maxRecDepth 100000 in
theorem lifted (os : Os) (started : os.Started) (H : Type) (enc : TypeId × Value → H) :
    ReturnsInHanded {} Try.checked os 5 .any (Rows.retryBeginsSpec.pre6 enc Try.prog Try.f5 Rows.retryBeginsRow.domain false) (Rows.retryBeginsSpec.post enc Try.prog Try.f5 false true false false) := by
  refine returnsInHanded_of_change (C := Try.checked) own started (by kernel_rfl) Try.func5
    (ChangeSpec.witness6 (enc := enc) (C := Try.checked) false ⟨#[], #[.int .i64 0, .slice none 0 0, .int .i64 0], []⟩ 8 (by kernel_rfl) (by kernel_rfl) (by kernel_rfl) (by kernel_rfl)) ?_
  intro W base args ds gs before hval hW _ _
  exact contract H enc W base args ds gs before hval hW

theorem proved : Rows.RetryBeginsSaid :=
  OpenClaim.holds_of_wide 5 Try.f5 rfl rfl rfl rfl rfl rfl rfl ⟨rfl, rfl, rfl, rfl, rfl⟩ rfl rfl rfl rfl rfl (by kernel_rfl) Try.func5 (by kernel_rfl)
    (of_decide_eq_true (by kernel_rfl)) (by unfold Func.isWrapper; first | (rw [if_pos (by decide +kernel)]; kernel_rfl) | (rw [if_neg (by decide +kernel)]; exact ⟨rfl, rfl⟩))
    (fun os started H enc _ => lifted os started H enc)
end Go.Proofs.Yteggajhpjdidcaa.RetryBeginsL
