/- LearnAnswer: who was heard is answered straight, by the one port by which he came, if that is not the one by which the answer comes: for every input. No condition. -/
import Derived.Test.YtbgbmchpikdgoaaLearnFact
import Derived.Test.YtbgbmchpikdgoaaLearnMore
import Derived.Test.YtbgbmchpikdgoaaHasIn
import Derived.Test.YtbgbmchpikdgoaaIn3
namespace Go.Proofs.Ytbgbmchpikdgoaa.LearnAnswerL
open Go.ChangeShapes Go.WideShapes Go.ChangeAt Go.RowKit Go.Proofs.Ytbgbmchpikdgoaa.Kit Go.Proofs.Ytbgbmchpikdgoaa.App Go.Proofs.Ytbgbmchpikdgoaa.Cells Go.Proofs.Ytbgbmchpikdgoaa.Err Go.Proofs.Ytbgbmchpikdgoaa.Learn
set_option linter.unusedVariables false
set_option maxRecDepth 20000
set_option maxHeartbeats 2000000
abbrev Law (p : Option Addr) (m cap : Nat) (f t q o : Int) (w : World) : Prop := Calls Try.prog 3 #[.slice p m cap, .int .i64 f, .int .i64 t, .int .i64 q, .int .i64 o] w fun e w' => e = .returned (.bool true) ∧ Below w.heap.size w w'
theorem law_bad (p : Option Addr) (m cap : Nat) (ls : List (List Int)) (f t q o : Int) (w : World) (hm : m = ls.length) (hi : RowsI w p cap ls) (h : ¬ (isA f ∧ isA t ∧ isP q)) : Law p m cap f t q o w := by
  have FB := Lib.hid (fun s W => frame_bad s f t q W h)
  rw [er_1] at FB
  clear h
  have FA := Lib.hid (fact_any w)
  have HE := Lib.hid (fun W (hW : Below w.heap.size w W) => heard_any p cap m ls W hm (hi.below hW))
  clear hi hm
  unfold Law
  go_enter Try.func3, Try.ntmps3
  go_wp2_with fail
  refine FA.out.mono ?_; rintro e w1 ⟨rfl, hb1⟩
  have HB1 := Lib.hid hb1
  clear FA hb1
  go_wp2_with fail
  refine (HE.out w1 HB1.out).mono ?_; rintro e w2 ⟨s, l, rfl, hs2, hb2⟩
  have HS2 := Lib.hid (hs2.mono (Y := fun k => k < w.heap.size) (fun k hk => Nat.lt_of_lt_of_le hk HB1.out.size))
  have HB2 := Lib.hid (bcall HB1.out hb2)
  clear hs2 hb2 HE HB1
  go_wp2_with fail
  refine (FB.out s w2).mono ?_; rintro e w3 ⟨rfl, rfl⟩
  go_wp2_with fail
  go_ret
  exact ⟨by first | rfl | simp, HB2.out⟩
/-- Behind the first frame: what is known. -/
theorem law_good (p : Option Addr) (m cap : Nat) (ls : List (List Int)) (f t q o : Int) (w : World) (hm : m = ls.length) (hi : RowsI w p cap ls) (hf : isA f) (ht : isA t) (hq : isP q) : Law p m cap f t q o w := by
  have FG := Lib.hid (fun s l W (H : Sw (fun k => k < w.heap.size) W s l) => frame_good _ s l f t q W H hf ht hq)
  rw [er_0] at FG
  have FA := Lib.hid (fact_any w)
  have HE := Lib.hid (fun W (hW : Below w.heap.size w W) => heard_any p cap m ls W hm (hi.below hW))
  clear hi hm
  unfold Law
  go_enter Try.func3, Try.ntmps3
  go_wp2_with fail
  refine FA.out.mono ?_; rintro e w1 ⟨rfl, hb1⟩
  have HB1 := Lib.hid hb1
  clear FA hb1
  go_wp2_with fail
  refine (HE.out w1 HB1.out).mono ?_; rintro e w2 ⟨s, l, rfl, hs2, hb2⟩
  have HS2 := Lib.hid (hs2.mono (Y := fun k => k < w.heap.size) (fun k hk => Nat.lt_of_lt_of_le hk HB1.out.size))
  have HB2 := Lib.hid (bcall HB1.out hb2)
  clear hs2 hb2 HE HB1
  go_wp2_with fail
  refine (FG.out s l w2 HS2.out).mono ?_; rintro e w3 ⟨v, rfl, ho3, hs3, hk3⟩
  have HOK := Lib.hid HS2.out.ok
  have HOK3 := Lib.hid hs3.ok
  have HFS := Lib.hid (find_self HS2.out.ok hf hq)
  have HFB := Lib.hid (fun (hne : f ≠ t) (ho : isP o) => find_before HS2.out.ok hf ht hq ho hne)
  have HON := Lib.hid (out_not (hear l f q) t q)
  obtain ⟨p1, c1, rfl, hi1, ha1⟩ := own_read ho3
  have HB3 := Lib.hid (HB2.out.trans (hk3.below (fun k h => h)))
  have HS3 := Lib.hid (hs3.mono (Y := fun k => k < w.heap.size) (fun k h => .inl h))
  generalize hear l f q = m1 at HS3 HFS HFB HON HOK3 hi1 ⊢
  generalize out m1 t q = o1 at HON hi1 ⊢
  have HI1 := Lib.hid hi1
  have HHA := Lib.hid (has_in p1 c1 o1.length o1 q w3 rfl hi1 false (decide_eq_false HON.out).symm)
  have hlen := hi1.len_le
  generalize o1.length = n1 at HHA hlen ⊢
  clear hs3 hk3 ho3 hi1 ha1 HB2 HS2 FG
  go_wp2_with fail
  refine HHA.out.mono ?_; rintro e w4 ⟨rfl, rfl⟩
  clear HHA
  go_wp2_with fail
  refine (port_any _ s m1 f w4 HS3.out).mono ?_; rintro e w5 ⟨rfl, hb5⟩
  have HB5 := Lib.hid (bcall HB3.out hb5)
  have HS5 := Lib.hid (HS3.out.below hb5)
  clear HB3 HS3 hb5 HI1
  rw [HFS.out]
  have u1 : (q != q) = false := by simp
  by_cases ho : isP o
  · have FG2 := Lib.hid (frame_good _ s m1 t f o w5 HS5.out ht hf ho)
    rw [er_0] at FG2
    go_wp2_with fail
    refine FG2.out.mono ?_; rintro e w6 ⟨v, rfl, ho6, hs6, hk6⟩
    obtain ⟨p2, c2, rfl, hi2, ha2⟩ := own_read ho6
    have HB6 := Lib.hid (HB5.out.trans (hk6.below (fun k h => h)))
    have HS6 := Lib.hid (hs6.mono (Y := fun k => k < w.heap.size) (fun k h => .inl h))
    clear hs6 hk6 ho6 ha2 HB5 HS5 FG2
    by_cases hft : f = t
    · subst hft
      have u2 : (f == f) = true := by simp
      have HF2 := Lib.hid (find_self HOK3.out (p := o) ht ho)
      rw [out_here HF2.out] at hi2 ⊢
      generalize hear m1 f o = m2 at HS6 HF2
      clear hi2
      go_wp2_with fail
      refine (port_any _ s m2 f w6 HS6.out).mono ?_; rintro e w7 ⟨rfl, hb7⟩
      have HB7 := Lib.hid (bcall HB6.out hb7)
      clear hb7 HB6 HS6
      rw [HF2.out]
      have u3 : (o == o) = true := by simp
      go_wp2_with fail
      go_ret
      exact ⟨by first | rfl | simp, HB7.out⟩
    · have u2 : (f == t) = false := by rw [beq_eq_false_iff_ne]; exact hft
      have HF2 := Lib.hid (HFB.out hft ho)
      by_cases hqo : q = o
      · subst hqo
        have u3 : (q == q) = true := by simp
        rw [out_here HF2.out] at hi2 ⊢
        clear hi2
        go_wp2_with fail
        go_ret
        exact ⟨by first | rfl | simp, HB6.out⟩
      · have u3 : (q == o) = false := by rw [beq_eq_false_iff_ne]; exact hqo
        rw [out_one HF2.out (by have := hq.1; omega) hqo] at hi2 ⊢
        have HI2 := Lib.hid hi2
        have HL := Lib.hid (lit_ints w6 [q] (small_wf (by intro x hx; simp at hx; rw [hx]; have := hq.1; have := hq.2; omega)) (by simp))
        have D7 := Lib.hid (balloc (brefl w6) (.cells #[.int .i64 q] 3))
        clear hi2
        go_wp2_with fail
        refine (ints_any p2 _ c2 1 1 1 [q] [q] _ rfl rfl (HI2.out.below D7.out) HL.out true (by simp)).mono ?_
        rintro e w8 ⟨rfl, hb8⟩
        have HB8 := Lib.hid (bcall HB6.out (bcall D7.out hb8))
        clear hb8 D7 HL HI2
        go_wp2_with fail
        go_ret
        exact ⟨rfl, HB8.out⟩
  · have FB2 := Lib.hid (frame_bad s t f o w5 (fun h => ho h.2.2))
    have HIN := Lib.hid (Drr.in_any o 0 3 w5 false (in_false ho))
    rw [er_1] at FB2
    go_wp2_with fail
    refine FB2.out.mono ?_; rintro e w6 ⟨rfl, rfl⟩
    go_wp2_with fail
    refine HIN.out.mono ?_; rintro e w7 ⟨rfl, rfl⟩
    go_wp2_with fail
    go_ret
    exact ⟨rfl, HB5.out⟩

theorem reads : Try.f3.params.toList.all (fun t => Try.prog.readableRec t && decide (t < Try.prog.types.size)) = true := by kernel_rfl

theorem contract (H : Type) (enc : TypeId × Value → H) (W : World) (base : Nat) (args : Array Value) (ds gs : List (DataW H)) (before : List MemPlace)
    (hval : ∀ (j : Nat) t v, Try.f3.params[j]? = some t → args[j]? = some v → Value.okWide Try.prog W .any base t v)
    (hW : DataW.Whole enc Try.prog Try.f3.params.toList Rows.learnAnswerSpec.vars false W args.toList ds gs before) :
    Calls Try.prog 3 args W fun e W' => ∃ v, e = .returned v ∧ Rows.learnAnswerSpec.post enc Try.prog Try.f3 false true false false W args v W' := by
  have hW' := hW
  obtain ⟨p, q, hA0, hV, rfl, hfz, hnd⟩ := hW
  have hA : DataW.TrodAll enc Try.prog W 0 (fun _ => true) true Try.f3.params.toList args.toList ds p := hA0
  have hlt := hA.lt
  rw [Try.params3] at hA hval
  obtain ⟨v0, vs0, d0, ds0, p0, q0, hargs, rfl, rfl, h0, r0⟩ := trodAll_cons hA
  obtain ⟨v1, vs1, d1, ds1, p1, q1, hvs1, rfl, rfl, h1, r1⟩ := trodAll_cons r0
  obtain ⟨v2, vs2, d2, ds2, p2, q2, hvs2, rfl, rfl, h2, r2⟩ := trodAll_cons r1
  obtain ⟨v3, vs3, d3, ds3, p3, q3, hvs3, rfl, rfl, h3, r3⟩ := trodAll_cons r2
  obtain ⟨v4, vs4, d4, ds4, p4, q4, hvs4, rfl, rfl, h4, r4⟩ := trodAll_cons r3
  obtain ⟨hvsn, rfl, rfl⟩ := trodAll_nil r4
  simp only [hvsn, hvs4, hvs3, hvs2, hvs1] at hargs
  obtain rfl : args = #[v0, v1, v2, v3, v4] := by cases args; simp_all
  obtain ⟨rfl, rfl⟩ := trodVars_none hV
  clear hA0
  obtain ⟨p0a, cap0, l0, rfl, i0, e0⟩ := open_rows Try.underlying22 Try.underlying26 Try.underlying3 (by kernel_rfl) (by kernel_rfl) (hval 0 22 v0 rfl rfl) h0 (fun x hx => hlt x (by simp [hx]))
  obtain ⟨a1, rfl, rfl, rfl, w1⟩ := open_int Try.underlying3 (hval 1 3 v1 rfl rfl) h1
  have b1 := bounds_int w1
  obtain ⟨a2, rfl, rfl, rfl, w2⟩ := open_int Try.underlying3 (hval 2 3 v2 rfl rfl) h2
  have b2 := bounds_int w2
  obtain ⟨a3, rfl, rfl, rfl, w3⟩ := open_int Try.underlying3 (hval 3 3 v3 rfl rfl) h3
  have b3 := bounds_int w3
  obtain ⟨a4, rfl, rfl, rfl, w4⟩ := open_int Try.underlying3 (hval 4 3 v4 rfl rfl) h4
  have b4 := bounds_int w4
  exact law_post 4 laid reads rfl Try.underlying4 rfl hW' ⟨rfl, rfl, rfl⟩ (by
    by_cases h : isA a1 ∧ isA a2 ∧ isP a3
    · exact law_good _ _ _ l0 a1 a2 a3 a4 W rfl i0 h.1 h.2.1 h.2.2
    · exact law_bad _ _ _ l0 a1 a2 a3 a4 W rfl i0 h)

set_option maxRecDepth 100000 in
theorem lifted (os : Os) (started : os.Started) (H : Type) (enc : TypeId × Value → H) :
    ReturnsInHanded {} Try.checked os 3 .any (Rows.learnAnswerSpec.pre6 enc Try.prog Try.f3 Rows.learnAnswerRow.domain false) (Rows.learnAnswerSpec.post enc Try.prog Try.f3 false true false false) := by
  refine returnsInHanded_of_change (C := Try.checked) own started (by kernel_rfl) Try.func3
    (ChangeSpec.witness6 (enc := enc) (C := Try.checked) false ⟨#[], #[.slice none 0 0, .int .i64 0, .int .i64 0, .int .i64 0, .int .i64 0], []⟩ 8 (by kernel_rfl) (by kernel_rfl) (by kernel_rfl) (by kernel_rfl)) ?_
  intro W base args ds gs before hval hW _ _
  exact contract H enc W base args ds gs before hval hW

theorem proved : Rows.LearnAnswerSaid :=
  OpenClaim.holds_of_wide 3 Try.f3 rfl rfl rfl rfl rfl rfl rfl ⟨rfl, rfl, rfl, rfl, rfl⟩ rfl rfl rfl rfl rfl (by kernel_rfl) Try.func3 (by kernel_rfl)
    (of_decide_eq_true (by kernel_rfl)) (by unfold Func.isWrapper; first | (rw [if_pos (by decide +kernel)]; kernel_rfl) | (rw [if_neg (by decide +kernel)]; exact ⟨rfl, rfl⟩))
    (fun os started H enc _ => lifted os started H enc)
end Go.Proofs.Ytbgbmchpikdgoaa.LearnAnswerL
