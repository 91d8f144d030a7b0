/- What is delivered is a beginning of the data, and all of it or all but one is acknowledged: the law returns true for every input. No condition. -/
import Derived.Test.YtjphjmgjhnpnjaaAbpLaw
namespace Go.Proofs.Ytjphjmgjhnpnjaa.abpExactP
open Go.ChangeShapes Go.WideShapes Go.ChangeAt Go.RowKit
open Go.Proofs.Ytjphjmgjhnpnjaa.Kit Go.Proofs.Ytjphjmgjhnpnjaa.App Go.Proofs.Ytjphjmgjhnpnjaa.Cells Go.Proofs.Ytjphjmgjhnpnjaa.Fate Go.Proofs.Ytjphjmgjhnpnjaa.AbpMath Go.Proofs.Ytjphjmgjhnpnjaa.Abp
set_option linter.unusedVariables false
set_option maxRecDepth 20000

abbrev Law (p q : Option Addr) (cap cq : Nat) (l : List Int) (fs : List Fat) (w : World) : Prop := Calls Try.prog 3 #[.slice p l.length cap, .slice q fs.length cq] w fun e w' => e = .returned (.bool true) ∧ Below w.heap.size w w'
set_option maxHeartbeats 1000000 in
theorem law_bad (p q : Option Addr) (cap cq : Nat) (l : List Int) (fs : List Fat) (w : World) (hi : Ints w p cap l) (hf : CI lay w q cq fs) (h0 : bad l fs.length ≠ 0) : Law p q cap cq l fs w := by
  obtain ⟨c, hc⟩ : ∃ c, c = bad l fs.length := ⟨_, rfl⟩
  rw [← hc] at h0
  have FA := Lib.hid (fact_any w)
  have RB := Lib.hid (fun W (hb : Below w.heap.size w W) => run_bad p q cap cq l.length fs.length l W rfl (hi.below hb) hf.len_le c hc h0)
  rw [er_ne h0] at RB
  clear hi hf hc h0
  unfold Law
  go_enter Try.func3, Try.ntmps3
  go_wp2_with fail
  refine FA.out.mono ?_; rintro e w1 ⟨rfl, hb1⟩
  go_wp2_with fail
  refine (RB.out _ hb1).mono ?_; rintro e w2 ⟨rfl, rfl⟩
  go_wp2_with fail
  go_ret
  exact ⟨rfl, hb1⟩
theorem ints_take {w : World} {p : Option Addr} {cap : Nat} {l : List Int} (h : Ints w p cap l) (k : Nat) : Ints w p cap (l.take k) := by
  have hl : (l.take k).length ≤ l.length := by rw [List.length_take]; omega
  refine ⟨Nat.le_trans hl h.1, h.2.1, fun j => ?_, fun hn => ?_⟩
  · by_cases hj : j < k
    · rw [List.getElem?_take, if_pos hj]; exact h.2.2.1 j
    · rw [List.getElem?_take, if_neg hj]; exact wf_zero
  · obtain ⟨b, off, e, hb, hc⟩ := h.2.2.2 (by omega)
    refine ⟨b, off, e, hb, fun j hj => ?_⟩
    rw [hc j (by omega), List.getElem?_take, if_pos (by rw [List.length_take] at hj; omega)]
set_option maxHeartbeats 1000000 in
theorem law_good (p q : Option Addr) (cap cq : Nat) (l : List Int) (fs : List Fat) (w : World) (hi : Ints w p cap l) (hf : CI lay w q cq fs) (h0 : bad l fs.length = 0) : Law p q cap cq l fs w := by
  obtain ⟨n, hn⟩ : ∃ n, n = l.length := ⟨_, rfl⟩
  obtain ⟨m, hm⟩ : ∃ m, m = fs.length := ⟨_, rfl⟩
  obtain ⟨hl20, hm200, _⟩ := (bad_zero l fs.length).1 h0
  unfold Law
  rw [← hm] at h0 hm200 ⊢
  rw [← hn] at hl20 ⊢
  obtain ⟨K, G, hr⟩ : ∃ K G, (K, G) = AbpMath.run n fs 0 0 := ⟨_, _, rfl⟩
  have hbt := run_between n fs 0 0 (Nat.le_refl _) (by omega) (by omega) (by omega)
  have hfi := run_fines n fs 0 0 (by omega)
  rw [← hr] at hbt hfi
  obtain ⟨hKG, hGK, hKn, hGn⟩ := hbt
  dsimp only at hKG hGK hKn hGn hfi
  have FA := Lib.hid (fact_any w)
  have RG := Lib.hid (fun W (hb : Below w.heap.size w W) => run_good p q cap cq n m l fs W hn hm (hi.below hb) (hf.below hb) h0 K G hr)
  have HI := Lib.hid hi
  have HF := Lib.hid hf
  have HN := Lib.hid hn
  have HM := Lib.hid hm
  have HFI := Lib.hid hfi
  have HTL := Lib.hid (show (l.take G).length = G by rw [List.length_take, ← hn]; omega)
  clear hi hf hn hm h0 hr hfi
  go_enter Try.func3, Try.ntmps3
  go_wp2_with fail
  refine FA.out.mono ?_; rintro e w1 ⟨rfl, hb1⟩
  go_wp2_with fail
  refine (RG.out _ hb1).mono ?_; rintro e w2 ⟨v, rfl, ho, hb2⟩
  have hB2 := bcall hb1 hb2
  obtain ⟨vp, vc, rfl, hvi⟩ := ho.form
  rw [HTL.out]
  have HV := Lib.hid hvi
  clear ho hb2 hvi hb1 FA RG
  have hGc : G ≤ cap := by
    have h1 := HI.out.1
    rw [← HN.out] at h1
    omega
  have hcm := HI.out.2.1
  have hlen := HI.out.len_le
  rw [← HN.out] at hlen
  have EQ := Lib.hid (ints_any vp p vc cap G G (l.take G) (l.take G) w2 HTL.out.symm HTL.out.symm HV.out (ints_take (HI.out.below hB2) G) true (by simp))
  go_wp2_with fail
  refine EQ.out.mono ?_; rintro e w3 ⟨rfl, hb3⟩
  have hB3 := bcall hB2 hb3
  clear hb3 EQ
  by_cases hKG2 : K = G
  · subst hKG2
    go_wp2_with fail
    go_ret
    exact ⟨rfl, hB3⟩
  · have t1 : ((K : Int) == (G : Int)) = false := by rw [beq_eq_false_iff_ne]; omega
    obtain rfl : G = K + 1 := by omega
    go_wp2_with fail
    go_ret
    exact ⟨rfl, hB3⟩

theorem reads : Try.f3.params.toList.all (fun t => Try.prog.readableRec t && decide (t < Try.prog.types.size)) = true := by kernel_rfl

theorem contract (H : Type) (enc : TypeId × Value → H) (W : World) (base : Nat) (args : Array Value) (ds gs : List (DataW H)) (before : List MemPlace)
    (hval : ∀ (j : Nat) t v, Try.f3.params[j]? = some t → args[j]? = some v → Value.okWide Try.prog W .any base t v)
    (hW : DataW.Whole enc Try.prog Try.f3.params.toList Rows.abpExactSpec.vars false W args.toList ds gs before) :
    Calls Try.prog 3 args W fun e W' => ∃ v, e = .returned v ∧ Rows.abpExactSpec.post enc Try.prog Try.f3 false true false false W args v W' := by
  have hW' := hW
  obtain ⟨p, q, hA0, hV, rfl, hfz, hnd⟩ := hW
  have hA : DataW.TrodAll enc Try.prog W 0 (fun _ => true) true Try.f3.params.toList args.toList ds p := hA0
  have hlt := hA.lt
  rw [Try.params3] at hA hval
  obtain ⟨v0, vs0, d0, ds0, p0, q0, hargs, rfl, rfl, h0, r0⟩ := trodAll_cons hA
  obtain ⟨v1, vs1, d1, ds1, p1, q1, hvs1, rfl, rfl, h1, r1⟩ := trodAll_cons r0
  obtain ⟨hvsn, rfl, rfl⟩ := trodAll_nil r1
  simp only [hvsn, hvs1] at hargs
  obtain rfl : args = #[v0, v1] := by cases args; simp_all
  obtain ⟨rfl, rfl⟩ := trodVars_none hV
  clear hA0
  obtain ⟨p0a, cap0, l0, rfl, i0⟩ := open_intsl Try.underlying22 Try.underlying3 (by kernel_rfl) (hval 0 22 v0 rfl rfl) h0 (fun x hx => hlt x (by simp [hx]))
  obtain ⟨p1a, cap1, l1, rfl, i1, e1⟩ := Go.Proofs.Ytjphjmgjhnpnjaa.Fate.open_fates (hval 1 23 v1 rfl rfl) h1 (fun x hx => hlt x (by simp [hx]))
  exact law_post 4 laid reads rfl Try.underlying4 rfl hW' ⟨rfl, rfl, rfl⟩ (by
    by_cases h : Abp.bad l0 l1.length = 0
    · exact law_good p0a p1a cap0 cap1 l0 l1 W i0 i1 h
    · exact law_bad p0a p1a cap0 cap1 l0 l1 W i0 i1 h)

set_option maxRecDepth 100000 in
theorem lifted (os : Os) (started : os.Started) (H : Type) (enc : TypeId × Value → H) :
    ReturnsInHanded {} Try.checked os 3 .any (Rows.abpExactSpec.pre6 enc Try.prog Try.f3 Rows.abpExactRow.domain false) (Rows.abpExactSpec.post enc Try.prog Try.f3 false true false false) := by
  refine returnsInHanded_of_change (C := Try.checked) own started (by kernel_rfl) Try.func3
    (ChangeSpec.witness6 (enc := enc) (C := Try.checked) false ⟨#[], #[.slice none 0 0, .slice none 0 0], []⟩ 8 (by kernel_rfl) (by kernel_rfl) (by kernel_rfl) (by kernel_rfl)) ?_
  intro W base args ds gs before hval hW _ _
  exact contract H enc W base args ds gs before hval hW

theorem proved : Rows.AbpExactSaid :=
  OpenClaim.holds_of_wide 3 Try.f3 rfl rfl rfl rfl rfl rfl rfl ⟨rfl, rfl, rfl, rfl, rfl⟩ rfl rfl rfl rfl rfl (by kernel_rfl) Try.func3 (by kernel_rfl)
    (of_decide_eq_true (by kernel_rfl)) (by unfold Func.isWrapper; first | (rw [if_pos (by decide +kernel)]; kernel_rfl) | (rw [if_neg (by decide +kernel)]; exact ⟨rfl, rfl⟩))
    (fun os started H enc _ => lifted os started H enc)
end Go.Proofs.Ytjphjmgjhnpnjaa.abpExactP
