/- With at least twice as many numbers as the window, what is delivered is a beginning of the data and what is acknowledged was delivered: the law returns true for every input. No condition. -/
import Derived.Test.YthiebkkfgegebaaSrepLaw
namespace Go.Proofs.Ythiebkkfgegebaa.srepExactP
open Go.ChangeShapes Go.WideShapes Go.ChangeAt Go.RowKit
open Go.Proofs.Ythiebkkfgegebaa.Kit Go.Proofs.Ythiebkkfgegebaa.App Go.Proofs.Ythiebkkfgegebaa.Cells Go.Proofs.Ythiebkkfgegebaa.Fate Go.Proofs.Ythiebkkfgegebaa.Abp Go.Proofs.Ythiebkkfgegebaa.Gbn Go.Proofs.Ythiebkkfgegebaa.SrepMath
set_option linter.unusedVariables false
set_option maxRecDepth 20000

abbrev Law (p q : Option Addr) (cap cq : Nat) (l : List Int) (W R : Int) (fs : List Fat) (w : World) : Prop := Calls Try.prog 3 #[.slice p l.length cap, .int .i64 W, .int .i64 R, .slice q fs.length cq] w fun e w' => e = .returned (.bool true) ∧ Below w.heap.size w w'
theorem ints_take {w : World} {p : Option Addr} {cap : Nat} {l : List Int} (h : Ints w p cap l) (k : Nat) : Ints w p cap (l.take k) := by
  have hl : (l.take k).length ≤ l.length := by rw [List.length_take]; omega
  refine ⟨Nat.le_trans hl h.1, h.2.1, fun j => ?_, fun hn => ?_⟩
  · by_cases hj : j < k
    · rw [List.getElem?_take, if_pos hj]; exact h.2.2.1 j
    · rw [List.getElem?_take, if_neg hj]; exact wf_zero
  · obtain ⟨b, off, e, hb, hc⟩ := h.2.2.2 (by omega)
    refine ⟨b, off, e, hb, fun j hj => ?_⟩
    rw [hc j (by omega), List.getElem?_take, if_pos (by rw [List.length_take] at hj; omega)]
set_option maxHeartbeats 1000000 in
theorem law_bad (p q : Option Addr) (cap cq : Nat) (l : List Int) (W R : Int) (fs : List Fat) (w : World) (hi : Ints w p cap l) (hf : CI lay w q cq fs) (h0 : badG l W R fs.length ≠ 0) : Law p q cap cq l W R fs w := by
  obtain ⟨c, hc⟩ : ∃ c, c = badG l W R fs.length := ⟨_, rfl⟩
  rw [← hc] at h0
  have FA := Lib.hid (Srep.fact_any w)
  have RB := Lib.hid (fun w' (hb : Below w.heap.size w w') => Srep.run_bad p q cap cq l.length fs.length l W R w' rfl (hi.below hb) hf.len_le c hc h0)
  rw [er_ne h0] at RB
  clear hi hf hc h0
  unfold Law
  go_enter Try.func3, Try.ntmps3
  go_wp2_with fail
  refine FA.out.mono ?_; rintro e w1 ⟨rfl, hb1⟩
  go_wp2_with fail
  refine (RB.out _ hb1).mono ?_; rintro e w2 ⟨rfl, rfl⟩
  go_wp2_with fail
  go_ret
  exact ⟨rfl, hb1⟩
set_option maxHeartbeats 1000000 in
theorem law_wide (p q : Option Addr) (cap cq : Nat) (l : List Int) (W R : Nat) (fs : List Fat) (w : World) (hi : Ints w p cap l) (hf : CI lay w q cq fs) (h0 : badG l W R fs.length = 0) (hWR : R < 2 * W) : Law p q cap cq l W R fs w := by
  obtain ⟨_, hW1, hW8, hR2, hR16⟩ := (badG_zero l W R fs.length).1 h0
  obtain ⟨K, hKe⟩ : ∃ K, (SrepMath.run l W R fs (st0 l.length W)).sf = K := ⟨_, rfl⟩
  have hK := run_known l W R (by omega) fs 0 _ (inv0 l.length W (by omega))
  rw [hKe] at hK
  have FA := Lib.hid (Srep.fact_any w)
  have RG := Lib.hid (fun w' (hb : Below w.heap.size w w') => Srep.run_good p q cap cq l.length fs.length W R l fs w' rfl rfl (hi.below hb) (hf.below hb) h0 _ rfl)
  rw [hKe] at RG
  have hlen := hi.len_le
  clear hi hf h0 hKe
  unfold Law
  obtain ⟨n, hn⟩ : ∃ n, l.length = n := ⟨_, rfl⟩
  rw [hn] at hK hlen RG ⊢
  clear hn
  have hW16 : (W : Int) ≤ 8 := by omega
  have t1 : decide (2 * (W : Int) > (R : Int)) = true := decide_eq_true (by omega)
  have t2 : decide ((K : Int) ≤ (n : Int)) = true := decide_eq_true (by omega)
  have t3 : decide ((K : Int) ≥ 0) = true := decide_eq_true (by omega)
  go_enter Try.func3, Try.ntmps3
  go_wp2_with fail
  refine FA.out.mono ?_; rintro e w1 ⟨rfl, hb1⟩
  go_wp2_with fail
  refine (RG.out _ hb1).mono ?_; rintro e w2 ⟨v, rfl, ho, hb2⟩
  have hB2 := bcall hb1 hb2
  obtain ⟨vp, vc, rfl, hvi⟩ := ho.form
  clear ho hb2 hvi hb1 FA RG
  go_wp2_with fail
  go_ret
  exact ⟨by first | rfl | simp [hK], hB2⟩
set_option maxHeartbeats 1000000 in
theorem law_good (p q : Option Addr) (cap cq : Nat) (l : List Int) (W R : Nat) (fs : List Fat) (w : World) (hi : Ints w p cap l) (hf : CI lay w q cq fs) (h0 : badG l W R fs.length = 0) (hWR : 2 * W ≤ R) : Law p q cap cq l W R fs w := by
  obtain ⟨hb0, hW1, hW8, hR2, hR16⟩ := (badG_zero l W R fs.length).1 h0
  have hW1 : 1 ≤ W := by omega
  have hW8 : W ≤ 8 := by omega
  obtain ⟨C, hg, hCn, hKC, hKf, hKn⟩ := run_exact l W R hW1 hWR fs
  obtain ⟨T, hT⟩ : ∃ T, SrepMath.run l W R fs (st0 l.length W) = T := ⟨_, rfl⟩
  rw [hT] at hg hKC hKf hKn
  obtain ⟨K, hKe⟩ : ∃ K, T.sf = K := ⟨_, rfl⟩
  rw [hKe] at hKC hKf hKn
  obtain ⟨n, hn⟩ : ∃ n, n = l.length := ⟨_, rfl⟩
  obtain ⟨m, hm⟩ : ∃ m, m = fs.length := ⟨_, rfl⟩
  obtain ⟨hl20, hm200, _⟩ := (bad_zero l fs.length).1 hb0
  unfold Law
  rw [← hm] at h0 hm200 ⊢
  rw [← hn] at hl20 hCn hKn hT ⊢
  have FA := Lib.hid (Srep.fact_any w)
  have RG := Lib.hid (fun w' (hb : Below w.heap.size w w') => Srep.run_good p q cap cq n m W R l fs w' hn hm (hi.below hb) (hf.below hb) h0 T hT)
  rw [hg, hKe] at RG
  have HI := Lib.hid hi
  have HF := Lib.hid hf
  have HN := Lib.hid hn
  have HM := Lib.hid hm
  have HKF := Lib.hid hKf
  have HKN := Lib.hid hKn
  have HTL := Lib.hid (show (l.take C).length = C by rw [List.length_take, ← hn]; omega)
  have t0 : decide (2 * (W : Int) > (R : Int)) = false := decide_eq_false (by omega)
  clear hi hf hn hm h0 hR2 hR16 hb0 hg hT hKe hKf hKn
  go_enter Try.func3, Try.ntmps3
  go_wp2_with fail
  refine FA.out.mono ?_; rintro e w1 ⟨rfl, hb1⟩
  go_wp2_with fail
  refine (RG.out _ hb1).mono ?_; rintro e w2 ⟨v, rfl, ho, hb2⟩
  have hB2 := bcall hb1 hb2
  obtain ⟨vp, vc, rfl, hvi⟩ := ho.form
  rw [HTL.out]
  have HV := Lib.hid hvi
  clear ho hb2 hvi hb1 FA RG
  have t1 : decide ((C : Int) ≤ (n : Int)) = true := decide_eq_true (by omega)
  have t2 : decide ((K : Int) ≤ (C : Int)) = true := decide_eq_true (by omega)
  have hGc : C ≤ cap := by
    have h1 := HI.out.1
    rw [← HN.out] at h1
    omega
  have hcm := HI.out.2.1
  have hlen := HI.out.len_le
  rw [← HN.out] at hlen
  have EQ := Lib.hid (ints_any vp p vc cap C C (l.take C) (l.take C) w2 HTL.out.symm HTL.out.symm HV.out (ints_take (HI.out.below hB2) C) true (by simp))
  go_wp2_with fail
  refine EQ.out.mono ?_; rintro e w3 ⟨rfl, hb3⟩
  have hB3 := bcall hB2 hb3
  clear hb3 EQ
  go_wp2_with fail
  go_ret
  exact ⟨by first | rfl | simp [hKC], hB3⟩

theorem reads : Try.f3.params.toList.all (fun t => Try.prog.readableRec t && decide (t < Try.prog.types.size)) = true := by kernel_rfl

theorem contract (H : Type) (enc : TypeId × Value → H) (W : World) (base : Nat) (args : Array Value) (ds gs : List (DataW H)) (before : List MemPlace)
    (hval : ∀ (j : Nat) t v, Try.f3.params[j]? = some t → args[j]? = some v → Value.okWide Try.prog W .any base t v)
    (hW : DataW.Whole enc Try.prog Try.f3.params.toList Rows.srepExactSpec.vars false W args.toList ds gs before) :
    Calls Try.prog 3 args W fun e W' => ∃ v, e = .returned v ∧ Rows.srepExactSpec.post enc Try.prog Try.f3 false true false false W args v W' := by
  have hW' := hW
  obtain ⟨p, q, hA0, hV, rfl, hfz, hnd⟩ := hW
  have hA : DataW.TrodAll enc Try.prog W 0 (fun _ => true) true Try.f3.params.toList args.toList ds p := hA0
  have hlt := hA.lt
  rw [Try.params3] at hA hval
  obtain ⟨v0, vs0, d0, ds0, p0, q0, hargs, rfl, rfl, h0, r0⟩ := trodAll_cons hA
  obtain ⟨v1, vs1, d1, ds1, p1, q1, hvs1, rfl, rfl, h1, r1⟩ := trodAll_cons r0
  obtain ⟨v2, vs2, d2, ds2, p2, q2, hvs2, rfl, rfl, h2, r2⟩ := trodAll_cons r1
  obtain ⟨v3, vs3, d3, ds3, p3, q3, hvs3, rfl, rfl, h3, r3⟩ := trodAll_cons r2
  obtain ⟨hvsn, rfl, rfl⟩ := trodAll_nil r3
  simp only [hvsn, hvs3, hvs2, hvs1] at hargs
  obtain rfl : args = #[v0, v1, v2, v3] := by cases args; simp_all
  obtain ⟨rfl, rfl⟩ := trodVars_none hV
  clear hA0
  obtain ⟨p0a, cap0, l0, rfl, i0⟩ := open_intsl Try.underlying22 Try.underlying3 (by kernel_rfl) (hval 0 22 v0 rfl rfl) h0 (fun x hx => hlt x (by simp [hx]))
  obtain ⟨a1, rfl, rfl, rfl, w1⟩ := open_int Try.underlying3 (hval 1 3 v1 rfl rfl) h1
  have b1 := bounds_int w1
  obtain ⟨a2, rfl, rfl, rfl, w2⟩ := open_int Try.underlying3 (hval 2 3 v2 rfl rfl) h2
  have b2 := bounds_int w2
  obtain ⟨p3a, cap3, l3, rfl, i3, e3⟩ := Go.Proofs.Ythiebkkfgegebaa.Fate.open_fates (hval 3 23 v3 rfl rfl) h3 (fun x hx => hlt x (by simp [hx]))
  exact law_post 4 laid reads rfl Try.underlying4 rfl hW' ⟨rfl, rfl, rfl⟩ (by
    by_cases h : Gbn.badG l0 a1 a2 l3.length = 0
    · obtain ⟨_, h1, h2, h3, h4⟩ := (badG_zero l0 a1 a2 l3.length).1 h
      obtain ⟨W', rfl⟩ : ∃ k : Nat, a1 = k := ⟨a1.toNat, by omega⟩
      obtain ⟨R', rfl⟩ : ∃ k : Nat, a2 = k := ⟨a2.toNat, by omega⟩
      by_cases hWR : 2 * W' ≤ R'
      · exact law_good p0a p3a cap0 cap3 l0 W' R' l3 W i0 i3 h hWR
      · exact law_wide p0a p3a cap0 cap3 l0 W' R' l3 W i0 i3 h (by omega)
    · exact law_bad p0a p3a cap0 cap3 l0 a1 a2 l3 W i0 i3 h)

set_option maxRecDepth 100000 in
theorem lifted (os : Os) (started : os.Started) (H : Type) (enc : TypeId × Value → H) :
    ReturnsInHanded {} Try.checked os 3 .any (Rows.srepExactSpec.pre6 enc Try.prog Try.f3 Rows.srepExactRow.domain false) (Rows.srepExactSpec.post enc Try.prog Try.f3 false true false false) := by
  refine returnsInHanded_of_change (C := Try.checked) own started (by kernel_rfl) Try.func3
    (ChangeSpec.witness6 (enc := enc) (C := Try.checked) false ⟨#[], #[.slice none 0 0, .int .i64 0, .int .i64 0, .slice none 0 0], []⟩ 8 (by kernel_rfl) (by kernel_rfl) (by kernel_rfl) (by kernel_rfl)) ?_
  intro W base args ds gs before hval hW _ _
  exact contract H enc W base args ds gs before hval hW

theorem proved : Rows.SrepExactSaid :=
  OpenClaim.holds_of_wide 3 Try.f3 rfl rfl rfl rfl rfl rfl rfl ⟨rfl, rfl, rfl, rfl, rfl⟩ rfl rfl rfl rfl rfl (by kernel_rfl) Try.func3 (by kernel_rfl)
    (of_decide_eq_true (by kernel_rfl)) (by unfold Func.isWrapper; first | (rw [if_pos (by decide +kernel)]; kernel_rfl) | (rw [if_neg (by decide +kernel)]; exact ⟨rfl, rfl⟩))
    (fun os started H enc _ => lifted os started H enc)
end Go.Proofs.Ythiebkkfgegebaa.srepExactP
