/- TopSwitch: two that talk by a switch are soon heard by nobody else: for every input. No condition. -/
import Derived.Test.YtbgbmchpikdgoaaLearnFact
import Derived.Test.YtbgbmchpikdgoaaLearnMore
import Derived.Test.YtbgbmchpikdgoaaHasIn
import Derived.Test.YtbgbmchpikdgoaaIn3
import Derived.Test.YtbgbmchpikdgoaaInTop
namespace Go.Proofs.Ytbgbmchpikdgoaa.TopSwitchL
open Go.ChangeShapes Go.WideShapes Go.ChangeAt Go.RowKit Go.Proofs.Ytbgbmchpikdgoaa.Kit Go.Proofs.Ytbgbmchpikdgoaa.App Go.Proofs.Ytbgbmchpikdgoaa.Cells Go.Proofs.Ytbgbmchpikdgoaa.Err Go.Proofs.Ytbgbmchpikdgoaa.Learn
set_option linter.unusedVariables false
set_option maxRecDepth 20000
set_option maxHeartbeats 2000000
abbrev Law (a b p q m : Int) (w : World) : Prop := Calls Try.prog 6 #[.int .i64 a, .int .i64 b, .int .i64 p, .int .i64 q, .int .i64 m] w fun e w' => e = .returned (.bool true) ∧ Below w.heap.size w w'
theorem hear_one (a b p q : Int) (h : a ≠ b) : hear [(a, p)] b q = [(a, p), (b, q)] := by
  have : but [(a, p)] b = [(a, p)] := by simp [but, h]
  unfold hear
  rw [this]; rfl
theorem hear_two (a b p q : Int) (h : a ≠ b) : hear [(b, q), (a, p)] b q = [(a, p), (b, q)] := by
  have : but [(b, q), (a, p)] b = [(a, p)] := by simp [but, h]
  unfold hear
  rw [this]; rfl
theorem find_fst (a b p q : Int) : find [(a, p), (b, q)] a = p := by rw [find, if_pos rfl]
theorem law_bad (a b p q m : Int) (w : World) (h : ¬ (isA a ∧ isA b ∧ isP p)) : Law a b p q m w := by
  have FB := Lib.hid (fun s W => frame_bad s a b p W h)
  rw [er_1] at FB
  clear h
  have NG := Lib.hid (new_any w (fun k => k < w.heap.size) (fun _ h => h))
  unfold Law
  go_enter Try.func6, Try.ntmps6
  go_wp2_with fail
  refine NG.out.mono ?_; rintro e w1 ⟨s, rfl, hs1, hb1⟩
  have HS1 := Lib.hid hs1
  have HB1 := Lib.hid hb1
  clear hs1 hb1 NG
  go_wp2_with fail
  refine (port_any _ s [] 0 w1 HS1.out).mono ?_; rintro e w2 ⟨rfl, hb2⟩
  rw [show find ([] : List E) 0 = -1 from rfl]
  have HS2 := Lib.hid (HS1.out.below hb2)
  have HB2 := Lib.hid (bcall HB1.out hb2)
  clear hb2 HS1 HB1
  go_wp2_with fail
  refine (FB.out s w2).mono ?_; rintro e w3 ⟨rfl, rfl⟩
  go_wp2_with fail
  go_ret
  exact ⟨by first | rfl | simp, HB2.out⟩
theorem law_self (a p q m : Int) (w : World) (ha : isA a) (hp : isP p) : Law a a p q m w := by
  have FG := Lib.hid (fun s W (H : Sw (fun k => k < w.heap.size) W s []) => frame_good _ s [] a a p W H ha ha hp)
  rw [er_0] at FG
  clear ha hp
  have u0 : (a != a) = false := by simp
  have u1 : (a == a) = true := by simp
  have NG := Lib.hid (new_any w (fun k => k < w.heap.size) (fun _ h => h))
  unfold Law
  go_enter Try.func6, Try.ntmps6
  go_wp2_with fail
  refine NG.out.mono ?_; rintro e w1 ⟨s, rfl, hs1, hb1⟩
  have HS1 := Lib.hid hs1
  have HB1 := Lib.hid hb1
  clear hs1 hb1 NG
  go_wp2_with fail
  refine (port_any _ s [] 0 w1 HS1.out).mono ?_; rintro e w2 ⟨rfl, hb2⟩
  rw [show find ([] : List E) 0 = -1 from rfl]
  have HS2 := Lib.hid (HS1.out.below hb2)
  have HB2 := Lib.hid (bcall HB1.out hb2)
  clear hb2 HS1 HB1
  go_wp2_with fail
  refine (FG.out s w2 HS2.out).mono ?_; rintro e w3 ⟨v, rfl, ho3, hs3, hk3⟩
  rw [show hear [] a p = [(a, p)] from rfl] at ho3 hs3
  have HS3 := Lib.hid (hs3.mono (Y := fun k => k < w.heap.size) (fun k h => .inl h))
  have HB3 := Lib.hid (HB2.out.trans (hk3.below (fun k h => h)))
  clear hs3 hk3 HS2 HB2 FG
  obtain ⟨p1, c1, rfl, hi1, ha1⟩ := own_read ho3
  clear ho3 hi1 ha1
  by_cases hq : isP q
  · have I1 := Lib.hid (fun W => int_any q 0 3 W true (in_true hq))
    clear hq
    go_wp2_with fail
    refine (I1.out _).mono ?_; rintro e w4 ⟨rfl, rfl⟩
    go_wp2_with fail
    go_ret
    exact ⟨rfl, HB3.out⟩
  · have I1 := Lib.hid (fun W => int_any q 0 3 W false (in_false hq))
    clear hq
    go_wp2_with fail
    refine (I1.out _).mono ?_; rintro e w4 ⟨rfl, rfl⟩
    go_wp2_with fail
    go_ret
    exact ⟨rfl, HB3.out⟩
theorem law_two (a b p q m : Int) (w : World) (ha : isA a) (hb : isA b) (hp : isP p) (hab : a ≠ b) (hm : -9223372036854775808 ≤ m ∧ m ≤ 9223372036854775807) : Law a b p q m w := by
  have FG := Lib.hid (fun s W (H : Sw (fun k => k < w.heap.size) W s []) => frame_good _ s [] a b p W H ha hb hp)
  rw [er_0] at FG
  have u0 : (a != b) = true := by rw [bne_iff_ne]; exact hab
  have u1 : (a == b) = false := by rw [beq_eq_false_iff_ne]; exact hab
  have NG := Lib.hid (new_any w (fun k => k < w.heap.size) (fun _ h => h))
  unfold Law
  go_enter Try.func6, Try.ntmps6
  go_wp2_with fail
  refine NG.out.mono ?_; rintro e w1 ⟨s, rfl, hs1, hb1⟩
  have HS1 := Lib.hid hs1
  have HB1 := Lib.hid hb1
  clear hs1 hb1 NG
  go_wp2_with fail
  refine (port_any _ s [] 0 w1 HS1.out).mono ?_; rintro e w2 ⟨rfl, hb2⟩
  rw [show find ([] : List E) 0 = -1 from rfl]
  have HS2 := Lib.hid (HS1.out.below hb2)
  have HB2 := Lib.hid (bcall HB1.out hb2)
  clear hb2 HS1 HB1
  go_wp2_with fail
  refine (FG.out s w2 HS2.out).mono ?_; rintro e w3 ⟨v, rfl, ho3, hs3, hk3⟩
  rw [show hear [] a p = [(a, p)] from rfl] at ho3 hs3
  have HS3 := Lib.hid (hs3.mono (Y := fun k => k < w.heap.size) (fun k h => .inl h))
  have HB3 := Lib.hid (HB2.out.trans (hk3.below (fun k h => h)))
  clear hs3 hk3 HS2 HB2 FG
  have hfl : find [(a, p)] b = -1 := by rw [find, if_neg hab]; rfl
  rw [out_flood hfl hp] at ho3
  obtain ⟨p1, c1, rfl, hi1, ha1⟩ := own_read ho3
  rw [others_len hp]
  have HHA := Lib.hid (has_in p1 c1 3 (others p) p w3 (others_len hp).symm hi1 false (decide_eq_false others_not).symm)
  clear ho3 hi1 ha1 hfl
  go_wp2_with fail
  refine HHA.out.mono ?_; rintro e w4 ⟨rfl, rfl⟩
  clear HHA
  go_wp2_with fail
  by_cases hq : isP q
  · have I1 := Lib.hid (fun W => int_any q 0 3 W true (in_true hq))
    by_cases hpq : p = q
    · have u2 : (p == q) = true := by rw [beq_iff_eq]; exact hpq
      clear hp ha hb hq hpq hab
      refine (I1.out _).mono ?_; rintro e w5 ⟨rfl, rfl⟩
      go_wp2_with fail
      go_ret
      exact ⟨rfl, HB3.out⟩
    · have u2 : (p == q) = false := by rw [beq_eq_false_iff_ne]; exact hpq
      have hne := hpq
      have FX := Lib.hid (fun l W (H : Sw (fun k => k < w.heap.size) W s l) => frame_good _ s l b a q W H hb ha hq)
      have FY := Lib.hid (fun X l W (H : Sw X W s l) => frame_good X s l a b p W H ha hb hp)
      rw [er_0] at FX FY
      have HT1 := Lib.hid (show ∀ l : List E, (l = [(a, p)] ∨ l = [(b, q), (a, p)]) → hear l b q = [(a, p), (b, q)] from fun l hl => by
        rcases hl with rfl | rfl
        · exact hear_one a b p q hab
        · exact hear_two a b p q hab)
      have HT2 := Lib.hid (hear_two b a q p (fun h => hab h.symm))
      have HO1 := Lib.hid (out_one (t := a) (p := q) (find_fst a b p q) (by have := hp.1; omega) hpq)
      have HO2 := Lib.hid (out_one (t := b) (p := p) (find_fst b a q p) (by have := hq.1; omega) (fun h => hpq h.symm))
      have HWP := Lib.hid (small_wf (l := [p]) (by intro x hx; simp at hx; rw [hx]; have := hp.1; have := hp.2; omega))
      have HWQ := Lib.hid (small_wf (l := [q]) (by intro x hx; simp at hx; rw [hx]; have := hq.1; have := hq.2; omega))
      clear hp ha hb hq hpq hne
      refine (I1.out _).mono ?_; rintro e w5 ⟨rfl, rfl⟩
      go_wp2_with fail
      go_loopw [14] (fun iv wr => ∃ (k : Nat) (l : List E), k ≤ 20 ∧ iv = .int .i64 (k : Int) ∧ Hid (l = [(a, p)] ∨ l = [(b, q), (a, p)]) ∧ Hid (Sw (fun k => k < w.heap.size) wr s l) ∧ Hid (Below w.heap.size w wr)) (fun i _ => 20 - (intOf i).toNat)
      case atStart => exact ⟨0, _, Nat.zero_le _, rfl, Lib.hid (.inl rfl), HS3, HB3⟩
      case round =>
        obtain ⟨k, l, hk, rfl, HL, HS, HB⟩ := hrel
        clear HS3 HB3
        by_cases h1 : (k : Int) < m
        · have t1 : decide ((k : Int) < m) = true := decide_eq_true h1
          by_cases h2 : k < 20
          · have t2 : decide ((k : Int) < 20) = true := decide_eq_true (by omega)
            clear h1
            go_wp2_with fail
            refine (FX.out l wr HS.out).mono ?_; rintro e x1 ⟨v1, rfl, ho1, hs1, hk1⟩
            rw [HT1.out l HL.out] at ho1 hs1
            rw [HO1.out] at ho1
            have HS1 := Lib.hid hs1
            have HB1 := Lib.hid (HB.out.trans (hk1.below (fun k h => h)))
            obtain ⟨q1, c1, rfl, hi1, ha1⟩ := own_read ho1
            have HI1 := Lib.hid hi1
            have HA1 := Lib.hid (fun a e => (ha1 a e).2.2)
            clear ho1 hs1 hk1 hi1 ha1 HS HB
            go_wp2_with fail
            refine (FY.out _ _ x1 HS1.out).mono ?_; rintro e x2 ⟨v2, rfl, ho2, hs2, hk2⟩
            rw [HT2.out] at ho2 hs2
            rw [HO2.out] at ho2
            have HS2 := Lib.hid (hs2.mono (Y := fun k => k < w.heap.size) (fun k h => .inl (.inl h)))
            have HB2 := Lib.hid (HB1.out.trans (hk2.below (fun k h => .inl h)))
            have HI1' := Lib.hid (hk2.ints HI1.out (fun a e => .inr (HA1.out a e)))
            obtain ⟨q2, c2, rfl, hi2, ha2⟩ := own_read ho2
            have HI2 := Lib.hid hi2
            clear ho2 hs2 hk2 hi2 ha2 HS1 HB1 HI1 HA1
            have L1 := Lib.hid (lit_ints x2 [p] HWP.out (by simp))
            have D1 := Lib.hid (balloc (brefl x2) (.cells #[.int .i64 p] 3))
            go_wp2_with fail
            refine (ints_any q1 _ c1 1 1 1 [p] [p] _ rfl rfl (HI1'.out.below D1.out) L1.out true (by simp)).mono ?_
            rintro e x3 ⟨rfl, hb3⟩
            have D3 := Lib.hid (bcall D1.out hb3)
            have L2 := Lib.hid (lit_ints x3 [q] HWQ.out (by simp))
            have D4 := Lib.hid (balloc D3.out (.cells #[.int .i64 q] 3))
            clear hb3 D1 L1 HI1' D3
            go_wp2_with fail
            refine (ints_any q2 _ c2 1 1 1 [q] [q] _ rfl rfl (HI2.out.below D4.out) L2.out true (by simp)).mono ?_
            rintro e x5 ⟨rfl, hb5⟩
            have D5 := Lib.hid (bcall D4.out hb5)
            have HS5 := Lib.hid (HS2.out.below D5.out)
            have HB5 := Lib.hid (bcall HB2.out D5.out)
            clear hb5 D4 L2 HI2 D5 HS2 HB2
            go_wp2_with fail
            go_roundw
            case rel => exact ⟨k + 1, _, by omega, by first | rfl | go_num, Lib.hid (.inr rfl), HS5, HB5⟩
            case measure => simp [intOf]; omega
          · have t2 : decide ((k : Int) < 20) = false := decide_eq_false (by omega)
            go_wp2_with fail
            go_ret
            exact ⟨rfl, HB.out⟩
        · have t1 : decide ((k : Int) < m) = false := decide_eq_false h1
          go_wp2_with fail
          go_ret
          exact ⟨rfl, HB.out⟩
  · have I1 := Lib.hid (fun W => int_any q 0 3 W false (in_false hq))
    clear hp ha hb hq hab
    refine (I1.out _).mono ?_; rintro e w5 ⟨rfl, rfl⟩
    go_wp2_with fail
    go_ret
    exact ⟨rfl, HB3.out⟩

theorem reads : Try.f6.params.toList.all (fun t => Try.prog.readableRec t && decide (t < Try.prog.types.size)) = true := by kernel_rfl

theorem contract (H : Type) (enc : TypeId × Value → H) (W : World) (base : Nat) (args : Array Value) (ds gs : List (DataW H)) (before : List MemPlace)
    (hval : ∀ (j : Nat) t v, Try.f6.params[j]? = some t → args[j]? = some v → Value.okWide Try.prog W .any base t v)
    (hW : DataW.Whole enc Try.prog Try.f6.params.toList Rows.topSwitchSpec.vars false W args.toList ds gs before) :
    Calls Try.prog 6 args W fun e W' => ∃ v, e = .returned v ∧ Rows.topSwitchSpec.post enc Try.prog Try.f6 false true false false W args v W' := by
  have hW' := hW
  obtain ⟨p, q, hA0, hV, rfl, hfz, hnd⟩ := hW
  have hA : DataW.TrodAll enc Try.prog W 0 (fun _ => true) true Try.f6.params.toList args.toList ds p := hA0
  have hlt := hA.lt
  rw [Try.params6] at hA hval
  obtain ⟨v0, vs0, d0, ds0, p0, q0, hargs, rfl, rfl, h0, r0⟩ := trodAll_cons hA
  obtain ⟨v1, vs1, d1, ds1, p1, q1, hvs1, rfl, rfl, h1, r1⟩ := trodAll_cons r0
  obtain ⟨v2, vs2, d2, ds2, p2, q2, hvs2, rfl, rfl, h2, r2⟩ := trodAll_cons r1
  obtain ⟨v3, vs3, d3, ds3, p3, q3, hvs3, rfl, rfl, h3, r3⟩ := trodAll_cons r2
  obtain ⟨v4, vs4, d4, ds4, p4, q4, hvs4, rfl, rfl, h4, r4⟩ := trodAll_cons r3
  obtain ⟨hvsn, rfl, rfl⟩ := trodAll_nil r4
  simp only [hvsn, hvs4, hvs3, hvs2, hvs1] at hargs
  obtain rfl : args = #[v0, v1, v2, v3, v4] := by cases args; simp_all
  obtain ⟨rfl, rfl⟩ := trodVars_none hV
  clear hA0
  obtain ⟨a0, rfl, rfl, rfl, w0⟩ := open_int Try.underlying3 (hval 0 3 v0 rfl rfl) h0
  have b0 := bounds_int w0
  obtain ⟨a1, rfl, rfl, rfl, w1⟩ := open_int Try.underlying3 (hval 1 3 v1 rfl rfl) h1
  have b1 := bounds_int w1
  obtain ⟨a2, rfl, rfl, rfl, w2⟩ := open_int Try.underlying3 (hval 2 3 v2 rfl rfl) h2
  have b2 := bounds_int w2
  obtain ⟨a3, rfl, rfl, rfl, w3⟩ := open_int Try.underlying3 (hval 3 3 v3 rfl rfl) h3
  have b3 := bounds_int w3
  obtain ⟨a4, rfl, rfl, rfl, w4⟩ := open_int Try.underlying3 (hval 4 3 v4 rfl rfl) h4
  have b4 := bounds_int w4
  exact law_post 4 laid reads rfl Try.underlying4 rfl hW' ⟨rfl, rfl, rfl⟩ (by
    by_cases h : isA a0 ∧ isA a1 ∧ isP a2
    · by_cases h2 : a0 = a1
      · subst h2; exact law_self a0 a2 a3 a4 W h.1 h.2.2
      · exact law_two a0 a1 a2 a3 a4 W h.1 h.2.1 h.2.2 h2 b4
    · exact law_bad a0 a1 a2 a3 a4 W h)

set_option maxRecDepth 100000 in
theorem lifted (os : Os) (started : os.Started) (H : Type) (enc : TypeId × Value → H) :
    ReturnsInHanded {} Try.checked os 6 .any (Rows.topSwitchSpec.pre6 enc Try.prog Try.f6 Rows.topSwitchRow.domain false) (Rows.topSwitchSpec.post enc Try.prog Try.f6 false true false false) := by
  refine returnsInHanded_of_change (C := Try.checked) own started (by kernel_rfl) Try.func6
    (ChangeSpec.witness6 (enc := enc) (C := Try.checked) false ⟨#[], #[.int .i64 0, .int .i64 0, .int .i64 0, .int .i64 0, .int .i64 0], []⟩ 8 (by kernel_rfl) (by kernel_rfl) (by kernel_rfl) (by kernel_rfl)) ?_
  intro W base args ds gs before hval hW _ _
  exact contract H enc W base args ds gs before hval hW

theorem proved : Rows.TopSwitchSaid :=
  OpenClaim.holds_of_wide 6 Try.f6 rfl rfl rfl rfl rfl rfl rfl ⟨rfl, rfl, rfl, rfl, rfl⟩ rfl rfl rfl rfl rfl (by kernel_rfl) Try.func6 (by kernel_rfl)
    (of_decide_eq_true (by kernel_rfl)) (by unfold Func.isWrapper; first | (rw [if_pos (by decide +kernel)]; kernel_rfl) | (rw [if_neg (by decide +kernel)]; exact ⟨rfl, rfl⟩))
    (fun os started H enc _ => lifted os started H enc)
end Go.Proofs.Ytbgbmchpikdgoaa.TopSwitchL
