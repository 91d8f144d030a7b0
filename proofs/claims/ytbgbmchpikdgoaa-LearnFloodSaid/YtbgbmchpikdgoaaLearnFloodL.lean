/- LearnFlood: who is not known is sought by all ports but the one, and who is known is not: for every input. No condition. -/
import Derived.Test.YtbgbmchpikdgoaaLearnFact
import Derived.Test.YtbgbmchpikdgoaaLearnMore
import Derived.Test.YtbgbmchpikdgoaaHasIn
import Derived.Test.YtbgbmchpikdgoaaIn3
namespace Go.Proofs.Ytbgbmchpikdgoaa.LearnFloodL
open Go.ChangeShapes Go.WideShapes Go.ChangeAt Go.RowKit Go.Proofs.Ytbgbmchpikdgoaa.Kit Go.Proofs.Ytbgbmchpikdgoaa.App Go.Proofs.Ytbgbmchpikdgoaa.Cells Go.Proofs.Ytbgbmchpikdgoaa.Err Go.Proofs.Ytbgbmchpikdgoaa.Learn
set_option linter.unusedVariables false
set_option maxRecDepth 20000
set_option maxHeartbeats 2000000
abbrev Law (p : Option Addr) (m cap : Nat) (f t q : Int) (w : World) : Prop := Calls Try.prog 4 #[.slice p m cap, .int .i64 f, .int .i64 t, .int .i64 q] w fun e w' => e = .returned (.bool true) ∧ Below w.heap.size w w'
theorem law_bad (p : Option Addr) (m cap : Nat) (ls : List (List Int)) (f t q : Int) (w : World) (hm : m = ls.length) (hi : RowsI w p cap ls) (h : ¬ (isA f ∧ isA t ∧ isP q)) : Law p m cap f t q w := by
  have FB := Lib.hid (fun s W => frame_bad s f t q W h)
  rw [er_1] at FB
  clear h
  have FA := Lib.hid (fact_any w)
  have HE := Lib.hid (fun W (hW : Below w.heap.size w W) => heard_any p cap m ls W hm (hi.below hW))
  clear hi hm
  unfold Law
  go_enter Try.func4, Try.ntmps4
  go_wp2_with fail
  refine FA.out.mono ?_; rintro e w1 ⟨rfl, hb1⟩
  have HB1 := Lib.hid hb1
  clear FA hb1
  go_wp2_with fail
  refine (HE.out w1 HB1.out).mono ?_; rintro e w2 ⟨s, l, rfl, hs2, hb2⟩
  have HS2 := Lib.hid (hs2.mono (Y := fun k => k < w.heap.size) (fun k hk => Nat.lt_of_lt_of_le hk HB1.out.size))
  have HB2 := Lib.hid (bcall HB1.out hb2)
  clear hs2 hb2 HE HB1
  go_wp2_with fail
  refine (port_any _ s l t w2 HS2.out).mono ?_; rintro e w3 ⟨rfl, hb3⟩
  have HB3 := Lib.hid (bcall HB2.out hb3)
  clear hb3 HB2 HS2
  go_wp2_with fail
  refine (FB.out s w3).mono ?_; rintro e w4 ⟨rfl, rfl⟩
  go_wp2_with fail
  go_ret
  exact ⟨by first | rfl | simp, HB3.out⟩
theorem law_good (p : Option Addr) (m cap : Nat) (ls : List (List Int)) (f t q : Int) (w : World) (hm : m = ls.length) (hi : RowsI w p cap ls) (hf : isA f) (ht : isA t) (hq : isP q) : Law p m cap f t q w := by
  have FG := Lib.hid (fun s l W (H : Sw (fun k => k < w.heap.size) W s l) => frame_good _ s l f t q W H hf ht hq)
  rw [er_0] at FG
  have FA := Lib.hid (fact_any w)
  have HE := Lib.hid (fun W (hW : Below w.heap.size w W) => heard_any p cap m ls W hm (hi.below hW))
  clear hi hm
  unfold Law
  go_enter Try.func4, Try.ntmps4
  go_wp2_with fail
  refine FA.out.mono ?_; rintro e w1 ⟨rfl, hb1⟩
  have HB1 := Lib.hid hb1
  clear FA hb1
  go_wp2_with fail
  refine (HE.out w1 HB1.out).mono ?_; rintro e w2 ⟨s, l, rfl, hs2, hb2⟩
  have HS2 := Lib.hid (hs2.mono (Y := fun k => k < w.heap.size) (fun k hk => Nat.lt_of_lt_of_le hk HB1.out.size))
  have HB2 := Lib.hid (bcall HB1.out hb2)
  clear hs2 hb2 HE HB1
  go_wp2_with fail
  refine (port_any _ s l t w2 HS2.out).mono ?_; rintro e w3 ⟨rfl, hb3⟩
  have HB3 := Lib.hid (bcall HB2.out hb3)
  have HS3 := Lib.hid (HS2.out.below hb3)
  clear hb3 HB2 HS2
  go_wp2_with fail
  refine (FG.out s l w3 HS3.out).mono ?_; rintro e w4 ⟨v, rfl, ho4, hs4, hk4⟩
  have HOK := Lib.hid HS3.out.ok
  have HFS := Lib.hid (find_self HS3.out.ok hf hq)
  have HFO := Lib.hid (fun hne : f ≠ t => find_other HS3.out.ok (p := q) hne)
  have HON := Lib.hid (out_not (hear l f q) t q)
  obtain ⟨p1, c1, rfl, hi1, ha1⟩ := own_read ho4
  have HB4 := Lib.hid (HB3.out.trans (hk4.below (fun k h => h)))
  have HS4 := Lib.hid (hs4.mono (Y := fun k => k < w.heap.size) (fun k h => .inl h))
  have HOK4 := Lib.hid hs4.ok
  generalize hear l f q = m1 at HS4 HFS HFO HON HOK4 hi1 ⊢
  clear hs4 hk4 ho4 ha1 HB3 HS3 FG
  by_cases hft : f = t
  · subst hft
    have u2 : (f == f) = true := by simp
    rw [out_here HFS.out] at hi1 ⊢
    clear hi1
    go_wp2_with fail
    go_ret
    exact ⟨by first | rfl | simp, HB4.out⟩
  · have u2 : (f == t) = false := by rw [beq_eq_false_iff_ne]; exact hft
    have HFO := Lib.hid (HFO.out hft)
    have HIN := Lib.hid (fun h : find m1 t ≠ -1 => find_ne HOK4.out h)
    by_cases hw : find l t = -1
    · have hf1 : find m1 t = -1 := by rcases HFO.out with h | h; exact h; exact h.trans hw
      rw [hw]
      rw [out_flood hf1 hq] at hi1 ⊢
      have HHA := Lib.hid (has_in p1 c1 3 (others q) q w4 (others_len hq).symm hi1 false (decide_eq_false others_not).symm)
      rw [others_len hq]
      clear hi1
      go_wp2_with fail
      refine HHA.out.mono ?_; rintro e w5 ⟨rfl, rfl⟩
      go_wp2_with fail
      go_ret
      exact ⟨rfl, HB4.out⟩
    · have u3 : (find l t == -1) = false := by rw [beq_eq_false_iff_ne]; exact hw
      obtain ⟨z, hz⟩ : ∃ z, find m1 t = z := ⟨_, rfl⟩
      obtain ⟨y, hy⟩ : ∃ y, find l t = y := ⟨_, rfl⟩
      rw [hz, hy] at HFO
      rw [hz] at HIN
      rw [hy] at u3 hw ⊢
      have HP := Lib.hid (port_any _ s m1 t w4 HS4.out)
      rw [hz] at HP
      have HZ := Lib.hid hz
      clear hz hy
      by_cases hz1 : z = -1
      · subst hz1
        have u4 : ((-1 : Int) == -1) = true := rfl
        rw [out_flood HZ.out hq] at hi1 ⊢
        have HI1 := Lib.hid hi1
        rw [others_len hq]
        clear hi1
        go_wp2_with fail
        refine HP.out.mono ?_; rintro e w5 ⟨rfl, hb5⟩
        have HHA := Lib.hid (has_in p1 c1 3 (others q) q w5 (others_len hq).symm (HI1.out.below hb5) false (decide_eq_false others_not).symm)
        have HB5 := Lib.hid (bcall HB4.out hb5)
        clear HP HI1 hb5
        go_wp2_with fail
        refine HHA.out.mono ?_; rintro e w6 ⟨rfl, rfl⟩
        go_wp2_with fail
        go_ret
        exact ⟨rfl, HB5.out⟩
      · have u4 : (z == -1) = false := by rw [beq_eq_false_iff_ne]; exact hz1
        have hyz : z = y := by rcases HFO.out with h | h; exact absurd h hz1; exact h
        subst hyz
        have u5 : (z == z) = true := by simp
        have hzp := HIN.out hz1
        have HP2 := Lib.hid (fun W (H : Sw (fun k => k < w.heap.size) W s m1) => port_any _ s m1 t W H)
        rw [HZ.out] at HP2
        by_cases hzq : z = q
        · subst hzq
          rw [out_here HZ.out] at hi1 ⊢
          clear hi1
          have u6 : (z != z) = false := by simp
          go_wp2_with fail
          refine HP.out.mono ?_; rintro e w5 ⟨rfl, hb5⟩
          have HB5 := Lib.hid (bcall HB4.out hb5)
          have HS5 := Lib.hid (HS4.out.below hb5)
          clear HP hb5 HB4 HS4
          go_wp2_with fail
          refine (HP2.out w5 HS5.out).mono ?_; rintro e w6 ⟨rfl, hb6⟩
          have HB6 := Lib.hid (bcall HB5.out hb6)
          clear HP2 hb6 HB5 HS5
          go_wp2_with fail
          go_ret
          exact ⟨by first | rfl | simp, HB6.out⟩
        · have u6 : (z == q) = false := by rw [beq_eq_false_iff_ne]; exact hzq
          have u7 : (z != q) = true := by rw [bne_iff_ne]; exact hzq
          rw [out_one HZ.out hz1 hzq] at hi1 ⊢
          have HI1 := Lib.hid hi1
          have HW := Lib.hid (small_wf (l := [z]) (by intro x hx; simp at hx; rw [hx]; have := hzp.1; have := hzp.2; omega))
          clear hi1
          go_wp2_with fail
          refine HP.out.mono ?_; rintro e w5 ⟨rfl, hb5⟩
          have HB5 := Lib.hid (bcall HB4.out hb5)
          have HS5 := Lib.hid (HS4.out.below hb5)
          have HI5 := Lib.hid (HI1.out.below hb5)
          clear HP hb5 HB4 HS4 HI1
          go_wp2_with fail
          refine (HP2.out w5 HS5.out).mono ?_; rintro e w6 ⟨rfl, hb6⟩
          have HB6 := Lib.hid (bcall HB5.out hb6)
          have HI6 := Lib.hid (HI5.out.below hb6)
          clear HP2 hb6 HB5 HS5 HI5
          have HL := Lib.hid (lit_ints w6 [z] HW.out (by simp))
          have D7 := Lib.hid (balloc (brefl w6) (.cells #[.int .i64 z] 3))
          go_wp2_with fail
          refine (ints_any p1 _ c1 1 1 1 [z] [z] _ rfl rfl (HI6.out.below D7.out) HL.out true (by simp)).mono ?_
          rintro e w8 ⟨rfl, hb8⟩
          have HB8 := Lib.hid (bcall HB6.out (bcall D7.out hb8))
          clear hb8 D7 HL HI6
          go_wp2_with fail
          go_ret
          exact ⟨rfl, HB8.out⟩

theorem reads : Try.f4.params.toList.all (fun t => Try.prog.readableRec t && decide (t < Try.prog.types.size)) = true := by kernel_rfl

theorem contract (H : Type) (enc : TypeId × Value → H) (W : World) (base : Nat) (args : Array Value) (ds gs : List (DataW H)) (before : List MemPlace)
    (hval : ∀ (j : Nat) t v, Try.f4.params[j]? = some t → args[j]? = some v → Value.okWide Try.prog W .any base t v)
    (hW : DataW.Whole enc Try.prog Try.f4.params.toList Rows.learnFloodSpec.vars false W args.toList ds gs before) :
    Calls Try.prog 4 args W fun e W' => ∃ v, e = .returned v ∧ Rows.learnFloodSpec.post enc Try.prog Try.f4 false true false false W args v W' := by
  have hW' := hW
  obtain ⟨p, q, hA0, hV, rfl, hfz, hnd⟩ := hW
  have hA : DataW.TrodAll enc Try.prog W 0 (fun _ => true) true Try.f4.params.toList args.toList ds p := hA0
  have hlt := hA.lt
  rw [Try.params4] at hA hval
  obtain ⟨v0, vs0, d0, ds0, p0, q0, hargs, rfl, rfl, h0, r0⟩ := trodAll_cons hA
  obtain ⟨v1, vs1, d1, ds1, p1, q1, hvs1, rfl, rfl, h1, r1⟩ := trodAll_cons r0
  obtain ⟨v2, vs2, d2, ds2, p2, q2, hvs2, rfl, rfl, h2, r2⟩ := trodAll_cons r1
  obtain ⟨v3, vs3, d3, ds3, p3, q3, hvs3, rfl, rfl, h3, r3⟩ := trodAll_cons r2
  obtain ⟨hvsn, rfl, rfl⟩ := trodAll_nil r3
  simp only [hvsn, hvs3, hvs2, hvs1] at hargs
  obtain rfl : args = #[v0, v1, v2, v3] := by cases args; simp_all
  obtain ⟨rfl, rfl⟩ := trodVars_none hV
  clear hA0
  obtain ⟨p0a, cap0, l0, rfl, i0, e0⟩ := open_rows Try.underlying22 Try.underlying26 Try.underlying3 (by kernel_rfl) (by kernel_rfl) (hval 0 22 v0 rfl rfl) h0 (fun x hx => hlt x (by simp [hx]))
  obtain ⟨a1, rfl, rfl, rfl, w1⟩ := open_int Try.underlying3 (hval 1 3 v1 rfl rfl) h1
  have b1 := bounds_int w1
  obtain ⟨a2, rfl, rfl, rfl, w2⟩ := open_int Try.underlying3 (hval 2 3 v2 rfl rfl) h2
  have b2 := bounds_int w2
  obtain ⟨a3, rfl, rfl, rfl, w3⟩ := open_int Try.underlying3 (hval 3 3 v3 rfl rfl) h3
  have b3 := bounds_int w3
  exact law_post 4 laid reads rfl Try.underlying4 rfl hW' ⟨rfl, rfl, rfl⟩ (by
    by_cases h : isA a1 ∧ isA a2 ∧ isP a3
    · exact law_good _ _ _ l0 a1 a2 a3 W rfl i0 h.1 h.2.1 h.2.2
    · exact law_bad _ _ _ l0 a1 a2 a3 W rfl i0 h)

set_option maxRecDepth 100000 in
theorem lifted (os : Os) (started : os.Started) (H : Type) (enc : TypeId × Value → H) :
    ReturnsInHanded {} Try.checked os 4 .any (Rows.learnFloodSpec.pre6 enc Try.prog Try.f4 Rows.learnFloodRow.domain false) (Rows.learnFloodSpec.post enc Try.prog Try.f4 false true false false) := by
  refine returnsInHanded_of_change (C := Try.checked) own started (by kernel_rfl) Try.func4
    (ChangeSpec.witness6 (enc := enc) (C := Try.checked) false ⟨#[], #[.slice none 0 0, .int .i64 0, .int .i64 0, .int .i64 0], []⟩ 8 (by kernel_rfl) (by kernel_rfl) (by kernel_rfl) (by kernel_rfl)) ?_
  intro W base args ds gs before hval hW _ _
  exact contract H enc W base args ds gs before hval hW

theorem proved : Rows.LearnFloodSaid :=
  OpenClaim.holds_of_wide 4 Try.f4 rfl rfl rfl rfl rfl rfl rfl ⟨rfl, rfl, rfl, rfl, rfl⟩ rfl rfl rfl rfl rfl (by kernel_rfl) Try.func4 (by kernel_rfl)
    (of_decide_eq_true (by kernel_rfl)) (by unfold Func.isWrapper; first | (rw [if_pos (by decide +kernel)]; kernel_rfl) | (rw [if_neg (by decide +kernel)]; exact ⟨rfl, rfl⟩))
    (fun os started H enc _ => lifted os started H enc)
end Go.Proofs.Ytbgbmchpikdgoaa.LearnFloodL
