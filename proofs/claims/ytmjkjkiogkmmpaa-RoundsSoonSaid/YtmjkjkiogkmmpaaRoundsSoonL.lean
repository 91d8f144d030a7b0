/- RoundsSoon: no packet finishes later than under bit-by-bit round robin: for every input. No condition. -/
import Derived.Test.YtmjkjkiogkmmpaaRoundsFact
import Derived.BigQuiet
namespace Go.Proofs.Ytmjkjkiogkmmpaa.RoundsSoonL
open Go.ChangeShapes Go.WideShapes Go.ChangeAt Go.RowKit Go.Proofs.Ytmjkjkiogkmmpaa.Kit Go.Proofs.Ytmjkjkiogkmmpaa.App Go.Proofs.Ytmjkjkiogkmmpaa.Err Go.Proofs.Ytmjkjkiogkmmpaa.Cells Go.Proofs.Ytmjkjkiogkmmpaa.Drr Go.Proofs.Ytmjkjkiogkmmpaa.Rounds
set_option linter.unusedVariables false
set_option maxRecDepth 20000
set_option maxHeartbeats 2000000
abbrev Law (p : Option Addr) (n cap : Nat) (w : World) : Prop := Calls Try.prog 3 #[.slice p n cap] w fun e w' => e = .returned (.bool true) ∧ Below w.heap.size w w'
theorem law_bad (p : Option Addr) (n cap : Nat) (ls : List (List Int)) (w : World) (hn : n = ls.length) (hi : RowsI w p cap ls) (c : Int) (hc : code ls = c) (h0 : c ≠ 0) : Law p n cap w := by
  have RU := Lib.hid (fun W (hW : Below w.heap.size w W) => run_any p cap n ls W hn (hi.below hW) c hc [] (fun h => absurd h h0) (fun _ => rfl) 0 rfl)
  have RB := Lib.hid (fun W (hW : Below w.heap.size w W) => bits_any p cap n ls W hn (hi.below hW) c hc [] (fun h => absurd h h0) (fun _ => rfl) 0 rfl)
  rw [er_ne h0] at RU RB
  clear hn hi hc h0
  have FA := Lib.hid (fact_any w)
  unfold Law
  go_enter Try.func3, Try.ntmps3
  go_wp2_with fail
  refine FA.out.mono ?_; rintro e w1 ⟨rfl, hb1⟩
  clear FA
  go_wp2_with fail
  refine (RU.out w1 hb1).mono ?_; rintro e w2 ⟨⟨r, cr, r2, cr2, rfl, hI, hI2⟩, hb2⟩
  have HB2 := Lib.hid (bcall hb1 hb2)
  have HI1 := Lib.hid hI
  have HI2 := Lib.hid hI2
  clear RU hb1 hb2 hI hI2
  go_wp2_with fail
  refine (RB.out w2 HB2.out).mono ?_; rintro e w3 ⟨⟨r3, cr3, rfl, hI3⟩, hb3⟩
  have HB3 := Lib.hid (bcall HB2.out hb3)
  have HO := Lib.hid (HI1.out.below hb3)
  have HE := Lib.hid (HI2.out.below hb3)
  have HBI := Lib.hid hI3
  clear RB hb3 hI3 HI1 HI2 HB2
  go_wp2_with fail
  go_ret
  exact ⟨by first | rfl | simp, HB3.out⟩
theorem law_good (p : Option Addr) (n cap : Nat) (ls : List (List Int)) (w : World) (hn : n = ls.length) (hi : RowsI w p cap ls) (hz : code ls = 0) : Law p n cap w := by
  have hg := code_zero.1 hz
  obtain ⟨m, hm⟩ := Srt.some hg
  obtain ⟨k, hk⟩ : ∃ k, m.length = k := ⟨_, rfl⟩
  have RU := Lib.hid (fun W (hW : Below w.heap.size w W) => run_any p cap n ls W hn (hi.below hW) 0 hz m (fun _ => hm) (fun h => absurd rfl h) k hk)
  have RB := Lib.hid (fun W (hW : Below w.heap.size w W) => bits_any p cap n ls W hn (hi.below hW) 0 hz m (fun _ => hm) (fun h => absurd rfl h) k hk)
  rw [er_0] at RU RB
  have hf := hm.few hg
  have hk40 : k ≤ 40 := by rw [← hk]; exact hf.len
  have TH := Lib.hid (fun W (hW : Below w.heap.size w W) => things_any p cap n ls W hn (hi.below hW) hg k (by rw [← hk, hm.len]))
  have HM := Lib.hid hm
  have HG := Lib.hid hg
  have HF := Lib.hid hf
  have HK := Lib.hid hk
  clear hn hi hz hg hm hk hf
  have FA := Lib.hid (fact_any w)
  unfold Law
  go_enter Try.func3, Try.ntmps3
  go_wp2_with fail
  refine FA.out.mono ?_; rintro e w1 ⟨rfl, hb1⟩
  clear FA
  go_wp2_with fail
  refine (RU.out w1 hb1).mono ?_; rintro e w2 ⟨⟨r, cr, r2, cr2, rfl, hI, hI2⟩, hb2⟩
  have HB2 := Lib.hid (bcall hb1 hb2)
  have HI1 := Lib.hid hI
  have HI2 := Lib.hid hI2
  clear RU hb1 hb2 hI hI2
  go_wp2_with fail
  refine (RB.out w2 HB2.out).mono ?_; rintro e w3 ⟨⟨r3, cr3, rfl, hI3⟩, hb3⟩
  have HB3 := Lib.hid (bcall HB2.out hb3)
  have HO := Lib.hid (HI1.out.below hb3)
  have HE := Lib.hid (HI2.out.below hb3)
  have HBI := Lib.hid hI3
  clear RB hb3 hI3 HI1 HI2 HB2
  go_wp2_with fail
  refine (TH.out w3 HB3.out).mono ?_; rintro e w4 ⟨rfl, hw4⟩
  subst hw4
  have t1 : ((k : Int) != (k : Int)) = false := by simp
  clear TH
  go_wp2_with fail
  go_loopw [9] (fun iv wr => ∃ j : Nat, j ≤ k ∧ iv = .int .i64 j ∧ Hid (∃ q, wr = w4.drewN q)) (fun i _ => k - (intOf i).toNat)
  case atStart => exact ⟨0, Nat.zero_le _, rfl, Lib.hid ⟨0, rfl⟩⟩
  case round =>
    obtain ⟨j, hj, rfl, HD⟩ := hrel
    have HBW : Hid (Below w4.heap.size w4 wr) := Lib.hid (by obtain ⟨q, rfl⟩ := HD.out; exact bdrewN (brefl w4) q)
    have HB4 := Lib.hid (bcall HB3.out HBW.out)
    by_cases hjk : j < k
    · have u1 : decide ((j : Int) < (k : Int)) = true := decide_eq_true (by omega)
      have hjm : j < m.length := by rw [HK.out]; exact hjk
      have hlE : (ends (sizes m)).length = k := by rw [ends_len]; unfold sizes; rw [List.length_map]; exact HK.out
      have hlB : (Rounds.bits ls 5 m).length = k := by rw [bits_len]; exact HK.out
      obtain ⟨x, hx⟩ : ∃ x, m[j]? = some x := ⟨_, List.getElem?_eq_getElem hjm⟩
      have hEw := HE.out.below HBW.out
      have hBw := HBI.out.below HBW.out
      obtain ⟨eb, eo, rfl⟩ := some_ints hEw (by omega)
      obtain ⟨bb, bo, rfl⟩ := some_ints hBw (by omega)
      have cE := cell_ints hEw j (by omega)
      have cB := cell_ints hBw j (by omega)
      have gE : (ends (sizes m))[j]?.getD 0 = tot ((sizes m).take (j + 1)) := ends_get (by unfold sizes; rw [List.length_map]; exact hjm)
      have gB : (Rounds.bits ls 5 m)[j]?.getD 0 = bit ls x.rnd 5 := bits_get ls 5 hx
      have hr0 := (HF.out.rnd x (List.mem_of_getElem? hx)).1
      have hsoon : tot ((sizes m).take (j + 1)) ≤ bit ls x.rnd 5 := by
        rw [bit_five (by omega) 5 HG.out.1]
        exact HM.out.soon HG.out hx
      have hst := sizes_step hx
      have hxs := (HF.out.size x (List.mem_of_getElem? hx)).1
      rw [gE] at cE
      rw [gB] at cB
      generalize tot ((sizes m).take (j + 1)) = E at cE hsoon hst gE
      generalize hBB : bit ls x.rnd 5 = B at cB hsoon gB
      have v1 : decide (E > B) = false := decide_eq_false (by omega)
      by_cases hj0 : 0 < j
      · obtain ⟨q, hq⟩ : ∃ q, j = q + 1 := ⟨j - 1, by omega⟩
        obtain ⟨y, hy⟩ : ∃ y, m[q]? = some y := ⟨_, List.getElem?_eq_getElem (by omega)⟩
        have cE2 := cell_ints hEw q (by omega)
        have cB2 := cell_ints hBw q (by omega)
        have gE2 : (ends (sizes m))[q]?.getD 0 = tot ((sizes m).take (q + 1)) := ends_get (by unfold sizes; rw [List.length_map]; omega)
        have gB2 : (Rounds.bits ls 5 m)[q]?.getD 0 = bit ls y.rnd 5 := bits_get ls 5 hy
        have hrr : y.rnd ≤ x.rnd := by
          obtain ⟨h1, rfl⟩ := List.getElem?_eq_some_iff.1 hy
          obtain ⟨h2, rfl⟩ := List.getElem?_eq_some_iff.1 hx
          have := List.pairwise_iff_getElem.1 HM.out.ord q j h1 h2 (by omega)
          unfold Bf at this
          omega
        have hmono := bit_mono (qs := ls) hrr 5
        rw [hBB] at hmono
        rw [gE2] at cE2
        rw [gB2] at cB2
        rw [show (sizes m).take j = (sizes m).take (q + 1) by rw [hq]] at hst
        generalize tot ((sizes m).take (q + 1)) = E2 at cE2 hst gE2
        generalize bit ls y.rnd 5 = B2 at cB2 hmono gB2
        have v2 : decide ((j : Int) > 0) = true := decide_eq_true (by omega)
        have v2' : decide (0 < j) = true := decide_eq_true (by omega)
        have v3 : decide (E ≤ E2) = false := decide_eq_false (by omega)
        have v4 : decide (B < B2) = false := decide_eq_false (by omega)
        have v5 : (j : Int) - 1 = (q : Int) := by omega
        have v7 : (q : Int) < (k : Int) := by omega
        have v8 : q < k := by omega
        clear hjm hlE hlB hx hy hEw hBw gE gB gE2 gB2 hr0 hrr hxs hst hq
        go_wp2_with fail
        go_quiet (fail)
        go_wp2_with fail
        go_roundw
        case rel => exact ⟨j + 1, by omega, by first | rfl | go_num, Lib.hid (by obtain ⟨z, rfl⟩ := HD.out; exact ⟨z + nq, World.drewN_drewN ..⟩)⟩
        case measure => simp [intOf]; omega
      · obtain rfl : j = 0 := by omega
        have v2 : decide (((0 : Nat) : Int) > 0) = false := by decide
        rw [Nat.add_zero] at cE cB
        clear hjm hlE hlB hx hEw hBw gE gB hr0 hxs hj0 hst
        go_wp2_with fail
        go_quiet (fail)
        go_wp2_with fail
        go_roundw
        case rel => exact ⟨1, by omega, by first | rfl | go_num, Lib.hid (by obtain ⟨z, rfl⟩ := HD.out; exact ⟨z + nq, World.drewN_drewN ..⟩)⟩
        case measure => simp [intOf]; omega
    · obtain rfl : j = k := by omega
      have u1 : decide ((j : Int) < (j : Int)) = false := decide_eq_false (by omega)
      go_wp2_with fail
      go_ret
      exact ⟨by first | rfl | simp, HB4.out⟩

theorem reads : Try.f3.params.toList.all (fun t => Try.prog.readableRec t && decide (t < Try.prog.types.size)) = true := by kernel_rfl

theorem contract (H : Type) (enc : TypeId × Value → H) (W : World) (base : Nat) (args : Array Value) (ds gs : List (DataW H)) (before : List MemPlace)
    (hval : ∀ (j : Nat) t v, Try.f3.params[j]? = some t → args[j]? = some v → Value.okWide Try.prog W .any base t v)
    (hW : DataW.Whole enc Try.prog Try.f3.params.toList Rows.roundsSoonSpec.vars false W args.toList ds gs before) :
    Calls Try.prog 3 args W fun e W' => ∃ v, e = .returned v ∧ Rows.roundsSoonSpec.post enc Try.prog Try.f3 false true false false W args v W' := by
  have hW' := hW
  obtain ⟨p, q, hA0, hV, rfl, hfz, hnd⟩ := hW
  have hA : DataW.TrodAll enc Try.prog W 0 (fun _ => true) true Try.f3.params.toList args.toList ds p := hA0
  have hlt := hA.lt
  rw [Try.params3] at hA hval
  obtain ⟨v0, vs0, d0, ds0, p0, q0, hargs, rfl, rfl, h0, r0⟩ := trodAll_cons hA
  obtain ⟨hvsn, rfl, rfl⟩ := trodAll_nil r0
  simp only [hvsn] at hargs
  obtain rfl : args = #[v0] := by cases args; simp_all
  obtain ⟨rfl, rfl⟩ := trodVars_none hV
  clear hA0
  obtain ⟨p0a, cap0, l0, rfl, i0, e0⟩ := open_rows Try.underlying22 Try.underlying24 Try.underlying3 (by kernel_rfl) (by kernel_rfl) (hval 0 22 v0 rfl rfl) h0 (fun x hx => hlt x (by simp [hx]))
  exact law_post 4 laid reads rfl Try.underlying4 rfl hW' ⟨rfl, rfl, rfl⟩ (by
    by_cases h : code l0 = 0
    · exact law_good _ _ _ l0 W rfl i0 h
    · exact law_bad _ _ _ l0 W rfl i0 _ rfl h)

set_option maxRecDepth 100000 in
theorem lifted (os : Os) (started : os.Started) (H : Type) (enc : TypeId × Value → H) :
    ReturnsInHanded {} Try.checked os 3 .any (Rows.roundsSoonSpec.pre6 enc Try.prog Try.f3 Rows.roundsSoonRow.domain false) (Rows.roundsSoonSpec.post enc Try.prog Try.f3 false true false false) := by
  refine returnsInHanded_of_change (C := Try.checked) own started (by kernel_rfl) Try.func3
    (ChangeSpec.witness6 (enc := enc) (C := Try.checked) false ⟨#[], #[.slice none 0 0], []⟩ 8 (by kernel_rfl) (by kernel_rfl) (by kernel_rfl) (by kernel_rfl)) ?_
  intro W base args ds gs before hval hW _ _
  exact contract H enc W base args ds gs before hval hW

theorem proved : Rows.RoundsSoonSaid :=
  OpenClaim.holds_of_wide 3 Try.f3 rfl rfl rfl rfl rfl rfl rfl ⟨rfl, rfl, rfl, rfl, rfl⟩ rfl rfl rfl rfl rfl (by kernel_rfl) Try.func3 (by kernel_rfl)
    (of_decide_eq_true (by kernel_rfl)) (by unfold Func.isWrapper; first | (rw [if_pos (by decide +kernel)]; kernel_rfl) | (rw [if_neg (by decide +kernel)]; exact ⟨rfl, rfl⟩))
    (fun os started H enc _ => lifted os started H enc)
end Go.Proofs.Ytmjkjkiogkmmpaa.RoundsSoonL
