/- Unstuffing inverts stuffing, and different bits are stuffed differently: the law returns true for every input. No condition. -/
import Derived.Test.YtfgkbogccaiceaaStuffLaw
namespace Go.Proofs.Ytfgkbogccaiceaa.stuffBackP
open Go.ChangeShapes Go.WideShapes Go.ChangeAt Go.RowKit
open Go.Proofs.Ytfgkbogccaiceaa.Kit Go.Proofs.Ytfgkbogccaiceaa.App Go.Proofs.Ytfgkbogccaiceaa.StuffMath Go.Proofs.Ytfgkbogccaiceaa.Stuff
set_option linter.unusedVariables false

theorem law_bad (p q : Option Addr) (cap cap2 : Nat) (l k : List Int) (w : World) (h : Ints w p cap l) (hk : Ints w q cap2 k) (hb : bad l ≠ 0) :
    Calls Try.prog 3 #[.slice p l.length cap, .slice q k.length cap2] w fun e w' => e = .returned (.bool true) ∧ Below w.heap.size w w' := by
  have hlen := h.len_le
  have S := Lib.hid (fun W (hh : Ints W p cap l) => stuff_bad p cap l.length l W rfl hh (bad l) rfl hb)
  clear hb
  go_enter Try.func3, Try.ntmps3
  go_wp2_with fail
  refine (fact_any _).mono ?_; rintro e w1 ⟨rfl, hb1⟩
  go_wp2_with fail
  refine (S.out w1 (h.below hb1)).mono ?_; rintro e w2 ⟨rfl, rfl⟩
  go_wp2_with fail
  go_ret
  exact ⟨rfl, hb1⟩

theorem bad_stf {l : List Int} (h : bad l = 0) (hn : (stf 0 l).length ≤ 200) : bad (stf 0 l) = 0 := bad_of hn (stf_bits l 0 (bad_zero h).2)
theorem same_stf (a b : List Int) : (a == b) = (stf 0 a == stf 0 b) := by
  by_cases h : a = b
  · rw [beq_iff_eq.2 h, beq_iff_eq.2 (by rw [h])]
  · rw [beq_eq_false_iff_ne.2 h, beq_eq_false_iff_ne.2 (fun e => h (stf_inj e))]


set_option maxHeartbeats 1000000 in
theorem law_short_good (p q : Option Addr) (cap cap2 : Nat) (l k : List Int) (w : World) (h : Ints w p cap l) (hk : Ints w q cap2 k) (hb : bad l = 0) (hn : (stf 0 l).length ≤ 200) (hb2 : bad k = 0) :
    Calls Try.prog 3 #[.slice p l.length cap, .slice q k.length cap2] w fun e w' => e = .returned (.bool true) ∧ Below w.heap.size w w' := by
  have hlen := h.len_le
  have hlenk := hk.len_le
  have hll := stf_len l 0 (by omega)
  have hl := (bad_zero hb).1
  have S1 := Lib.hid (fun W (hh : Ints W p cap l) => stuff_ok p cap l.length l W rfl hh hb)
  have hlk := stf_len k 0 (by omega)
  have hl2 := (bad_zero hb2).1
  have S2 := Lib.hid (fun W (hh : Ints W q cap2 k) => stuff_ok q cap2 k.length k W rfl hh hb2)
  have HEQ := Lib.hid (same_stf l k)
  have U := Lib.hid (fun W p' c' (hh : Ints W p' c' (stf 0 l)) => unstuffer_some p' c' (stf 0 l).length (stf 0 l) W rfl hh (bad_stf hb hn) l (ust_stf l 0 (by omega)))
  clear hb hb2
  obtain ⟨m, hm⟩ : ∃ m, stf 0 l = m := ⟨_, rfl⟩
  rw [hm] at hll hn S1 U HEQ
  clear hm
  obtain ⟨m2, hm2⟩ : ∃ m2, stf 0 k = m2 := ⟨_, rfl⟩
  rw [hm2] at hlk S2 HEQ
  clear hm2
  have tn : decide ((m.length : Int) ≤ 200) = true := decide_eq_true (by omega)
  clear hn
  go_enter Try.func3, Try.ntmps3
  go_wp2_with fail
  refine (fact_any _).mono ?_; rintro e w1 ⟨rfl, hb1⟩
  go_wp2_with fail
  refine (S1.out w1 (h.below hb1)).mono ?_; rintro e w2 ⟨v, rfl, ho, hb2⟩
  obtain ⟨p2, c2, rfl, hi2⟩ := ho.form
  have hB2 := bcall hb1 hb2
  clear ho hb1 hb2
  go_wp2_with fail
  refine (U.out w2 _ _ hi2).mono ?_; rintro e w3 ⟨v, rfl, ho, hb3⟩
  obtain ⟨p3, c3, rfl, hi3⟩ := ho.form
  have hB3 := bcall hB2 hb3
  have hi2 := hi2.below hb3
  clear ho
  go_wp2_with fail
  refine (ints_any p3 p c3 cap l.length l.length l l w3 rfl rfl hi3 (h.below hB3) true (by rw [beq_self_eq_true])).mono ?_; rintro e w4 ⟨rfl, hb4⟩
  have hB4 := bcall hB3 hb4
  have hi2 := hi2.below hb4
  go_wp2_with fail
  refine (S2.out w4 (hk.below hB4)).mono ?_; rintro e w5 ⟨v, rfl, ho, hb5⟩
  obtain ⟨p5, c5, rfl, hi5⟩ := ho.form
  have hB5 := bcall hB4 hb5
  have hi2 := hi2.below hb5
  clear ho
  go_wp2_with fail
  refine (ints_any p q cap cap2 l.length k.length l k w5 rfl rfl (h.below hB5) (hk.below hB5) (m == m2) HEQ.out.symm).mono ?_; rintro e w6 ⟨rfl, hb6⟩
  go_wp2_with fail
  refine (ints_any p2 p5 c2 c5 m.length m2.length m m2 w6 rfl rfl (hi2.below hb6) (hi5.below hb6) (m == m2) rfl).mono ?_; rintro e w7 ⟨rfl, hb7⟩
  generalize (m == m2) = R
  go_wp2_with fail
  go_ret
  exact ⟨by simp, bcall (bcall hB5 hb6) hb7⟩

set_option maxHeartbeats 1000000 in
theorem law_short_bad (p q : Option Addr) (cap cap2 : Nat) (l k : List Int) (w : World) (h : Ints w p cap l) (hk : Ints w q cap2 k) (hb : bad l = 0) (hn : (stf 0 l).length ≤ 200) (hb2 : bad k ≠ 0) :
    Calls Try.prog 3 #[.slice p l.length cap, .slice q k.length cap2] w fun e w' => e = .returned (.bool true) ∧ Below w.heap.size w w' := by
  have hlen := h.len_le
  have hlenk := hk.len_le
  have hll := stf_len l 0 (by omega)
  have hl := (bad_zero hb).1
  have S1 := Lib.hid (fun W (hh : Ints W p cap l) => stuff_ok p cap l.length l W rfl hh hb)
  have S2 := Lib.hid (fun W (hh : Ints W q cap2 k) => stuff_bad q cap2 k.length k W rfl hh (bad k) rfl hb2)
  have U := Lib.hid (fun W p' c' (hh : Ints W p' c' (stf 0 l)) => unstuffer_some p' c' (stf 0 l).length (stf 0 l) W rfl hh (bad_stf hb hn) l (ust_stf l 0 (by omega)))
  clear hb hb2
  obtain ⟨m, hm⟩ : ∃ m, stf 0 l = m := ⟨_, rfl⟩
  rw [hm] at hll hn S1 U
  clear hm
  have tn : decide ((m.length : Int) ≤ 200) = true := decide_eq_true (by omega)
  clear hn
  go_enter Try.func3, Try.ntmps3
  go_wp2_with fail
  refine (fact_any _).mono ?_; rintro e w1 ⟨rfl, hb1⟩
  go_wp2_with fail
  refine (S1.out w1 (h.below hb1)).mono ?_; rintro e w2 ⟨v, rfl, ho, hb2⟩
  obtain ⟨p2, c2, rfl, hi2⟩ := ho.form
  have hB2 := bcall hb1 hb2
  clear ho hb1 hb2
  go_wp2_with fail
  refine (U.out w2 _ _ hi2).mono ?_; rintro e w3 ⟨v, rfl, ho, hb3⟩
  obtain ⟨p3, c3, rfl, hi3⟩ := ho.form
  have hB3 := bcall hB2 hb3
  have hi2 := hi2.below hb3
  clear ho
  go_wp2_with fail
  refine (ints_any p3 p c3 cap l.length l.length l l w3 rfl rfl hi3 (h.below hB3) true (by rw [beq_self_eq_true])).mono ?_; rintro e w4 ⟨rfl, hb4⟩
  have hB4 := bcall hB3 hb4
  have hi2 := hi2.below hb4
  go_wp2_with fail
  refine (S2.out w4 (hk.below hB4)).mono ?_; rintro e w5 ⟨rfl, rfl⟩
  go_wp2_with fail
  go_ret
  exact ⟨rfl, hB4⟩

set_option maxHeartbeats 1000000 in
theorem law_long_good (p q : Option Addr) (cap cap2 : Nat) (l k : List Int) (w : World) (h : Ints w p cap l) (hk : Ints w q cap2 k) (hb : bad l = 0) (hn : ¬ (stf 0 l).length ≤ 200) (hb2 : bad k = 0) :
    Calls Try.prog 3 #[.slice p l.length cap, .slice q k.length cap2] w fun e w' => e = .returned (.bool true) ∧ Below w.heap.size w w' := by
  have hlen := h.len_le
  have hlenk := hk.len_le
  have hll := stf_len l 0 (by omega)
  have hl := (bad_zero hb).1
  have S1 := Lib.hid (fun W (hh : Ints W p cap l) => stuff_ok p cap l.length l W rfl hh hb)
  have hlk := stf_len k 0 (by omega)
  have hl2 := (bad_zero hb2).1
  have S2 := Lib.hid (fun W (hh : Ints W q cap2 k) => stuff_ok q cap2 k.length k W rfl hh hb2)
  have HEQ := Lib.hid (same_stf l k)
  clear hb hb2
  obtain ⟨m, hm⟩ : ∃ m, stf 0 l = m := ⟨_, rfl⟩
  rw [hm] at hll hn S1 HEQ
  clear hm
  obtain ⟨m2, hm2⟩ : ∃ m2, stf 0 k = m2 := ⟨_, rfl⟩
  rw [hm2] at hlk S2 HEQ
  clear hm2
  have tn : decide ((m.length : Int) ≤ 200) = false := decide_eq_false (by omega)
  clear hn
  go_enter Try.func3, Try.ntmps3
  go_wp2_with fail
  refine (fact_any _).mono ?_; rintro e w1 ⟨rfl, hb1⟩
  go_wp2_with fail
  refine (S1.out w1 (h.below hb1)).mono ?_; rintro e w2 ⟨v, rfl, ho, hb2⟩
  obtain ⟨p2, c2, rfl, hi2⟩ := ho.form
  have hB2 := bcall hb1 hb2
  clear ho hb1 hb2
  go_wp2_with fail
  refine (S2.out w2 (hk.below hB2)).mono ?_; rintro e w5 ⟨v, rfl, ho, hb5⟩
  obtain ⟨p5, c5, rfl, hi5⟩ := ho.form
  have hB5 := bcall hB2 hb5
  have hi2 := hi2.below hb5
  clear ho
  go_wp2_with fail
  refine (ints_any p q cap cap2 l.length k.length l k w5 rfl rfl (h.below hB5) (hk.below hB5) (m == m2) HEQ.out.symm).mono ?_; rintro e w6 ⟨rfl, hb6⟩
  go_wp2_with fail
  refine (ints_any p2 p5 c2 c5 m.length m2.length m m2 w6 rfl rfl (hi2.below hb6) (hi5.below hb6) (m == m2) rfl).mono ?_; rintro e w7 ⟨rfl, hb7⟩
  generalize (m == m2) = R
  go_wp2_with fail
  go_ret
  exact ⟨by simp, bcall (bcall hB5 hb6) hb7⟩

set_option maxHeartbeats 1000000 in
theorem law_long_bad (p q : Option Addr) (cap cap2 : Nat) (l k : List Int) (w : World) (h : Ints w p cap l) (hk : Ints w q cap2 k) (hb : bad l = 0) (hn : ¬ (stf 0 l).length ≤ 200) (hb2 : bad k ≠ 0) :
    Calls Try.prog 3 #[.slice p l.length cap, .slice q k.length cap2] w fun e w' => e = .returned (.bool true) ∧ Below w.heap.size w w' := by
  have hlen := h.len_le
  have hlenk := hk.len_le
  have hll := stf_len l 0 (by omega)
  have hl := (bad_zero hb).1
  have S1 := Lib.hid (fun W (hh : Ints W p cap l) => stuff_ok p cap l.length l W rfl hh hb)
  have S2 := Lib.hid (fun W (hh : Ints W q cap2 k) => stuff_bad q cap2 k.length k W rfl hh (bad k) rfl hb2)
  clear hb hb2
  obtain ⟨m, hm⟩ : ∃ m, stf 0 l = m := ⟨_, rfl⟩
  rw [hm] at hll hn S1
  clear hm
  have tn : decide ((m.length : Int) ≤ 200) = false := decide_eq_false (by omega)
  clear hn
  go_enter Try.func3, Try.ntmps3
  go_wp2_with fail
  refine (fact_any _).mono ?_; rintro e w1 ⟨rfl, hb1⟩
  go_wp2_with fail
  refine (S1.out w1 (h.below hb1)).mono ?_; rintro e w2 ⟨v, rfl, ho, hb2⟩
  obtain ⟨p2, c2, rfl, hi2⟩ := ho.form
  have hB2 := bcall hb1 hb2
  clear ho hb1 hb2
  go_wp2_with fail
  refine (S2.out w2 (hk.below hB2)).mono ?_; rintro e w5 ⟨rfl, rfl⟩
  go_wp2_with fail
  go_ret
  exact ⟨rfl, hB2⟩
theorem law_any (p q : Option Addr) (cap cap2 : Nat) (l k : List Int) (w : World) (h : Ints w p cap l) (hk : Ints w q cap2 k) :
    Calls Try.prog 3 #[.slice p l.length cap, .slice q k.length cap2] w fun e w' => e = .returned (.bool true) ∧ Below w.heap.size w w' := by
  by_cases hb : bad l = 0
  · by_cases hn : (stf 0 l).length ≤ 200
    · by_cases hb2 : bad k = 0
      · exact law_short_good p q cap cap2 l k w h hk hb hn hb2
      · exact law_short_bad p q cap cap2 l k w h hk hb hn hb2
    · by_cases hb2 : bad k = 0
      · exact law_long_good p q cap cap2 l k w h hk hb hn hb2
      · exact law_long_bad p q cap cap2 l k w h hk hb hn hb2
  · exact law_bad p q cap cap2 l k w h hk hb

theorem reads : Try.f3.params.toList.all (fun t => Try.prog.readableRec t && decide (t < Try.prog.types.size)) = true := by kernel_rfl

theorem contract (H : Type) (enc : TypeId × Value → H) (W : World) (base : Nat) (args : Array Value) (ds gs : List (DataW H)) (before : List MemPlace)
    (hval : ∀ (j : Nat) t v, Try.f3.params[j]? = some t → args[j]? = some v → Value.okWide Try.prog W .any base t v)
    (hW : DataW.Whole enc Try.prog Try.f3.params.toList Rows.stuffBackSpec.vars false W args.toList ds gs before) :
    Calls Try.prog 3 args W fun e W' => ∃ v, e = .returned v ∧ Rows.stuffBackSpec.post enc Try.prog Try.f3 false true false false W args v W' := by
  have hW' := hW
  obtain ⟨p, q, hA0, hV, rfl, hfz, hnd⟩ := hW
  have hA : DataW.TrodAll enc Try.prog W 0 (fun _ => true) true Try.f3.params.toList args.toList ds p := hA0
  have hlt := hA.lt
  rw [Try.params3] at hA hval
  obtain ⟨v0, vs0, d0, ds0, p0, q0, hargs, rfl, rfl, h0, r0⟩ := trodAll_cons hA
  obtain ⟨v1, vs1, d1, ds1, p1, q1, hvs1, rfl, rfl, h1, r1⟩ := trodAll_cons r0
  obtain ⟨hvsn, rfl, rfl⟩ := trodAll_nil r1
  simp only [hvsn, hvs1] at hargs
  obtain rfl : args = #[v0, v1] := by cases args; simp_all
  obtain ⟨rfl, rfl⟩ := trodVars_none hV
  clear hA0
  obtain ⟨p0a, cap0, l0, rfl, i0⟩ := open_intsl Try.underlying22 Try.underlying3 (by kernel_rfl) (hval 0 22 v0 rfl rfl) h0 (fun x hx => hlt x (by simp [hx]))
  obtain ⟨p1a, cap1, l1, rfl, i1⟩ := open_intsl Try.underlying22 Try.underlying3 (by kernel_rfl) (hval 1 22 v1 rfl rfl) h1 (fun x hx => hlt x (by simp [hx]))
  exact law_post 4 laid reads rfl Try.underlying4 rfl hW' ⟨rfl, rfl, rfl⟩ (law_any p0a p1a cap0 cap1 l0 l1 W i0 i1)

set_option maxRecDepth 100000 in
theorem lifted (os : Os) (started : os.Started) (H : Type) (enc : TypeId × Value → H) :
    ReturnsInHanded {} Try.checked os 3 .any (Rows.stuffBackSpec.pre6 enc Try.prog Try.f3 Rows.stuffBackRow.domain false) (Rows.stuffBackSpec.post enc Try.prog Try.f3 false true false false) := by
  refine returnsInHanded_of_change (C := Try.checked) own started (by kernel_rfl) Try.func3
    (ChangeSpec.witness6 (enc := enc) (C := Try.checked) false ⟨#[], #[.slice none 0 0, .slice none 0 0], []⟩ 8 (by kernel_rfl) (by kernel_rfl) (by kernel_rfl) (by kernel_rfl)) ?_
  intro W base args ds gs before hval hW _ _
  exact contract H enc W base args ds gs before hval hW

theorem proved : Rows.StuffBackSaid :=
  OpenClaim.holds_of_wide 3 Try.f3 rfl rfl rfl rfl rfl rfl rfl ⟨rfl, rfl, rfl, rfl, rfl⟩ rfl rfl rfl rfl rfl (by kernel_rfl) Try.func3 (by kernel_rfl)
    (of_decide_eq_true (by kernel_rfl)) (by unfold Func.isWrapper; first | (rw [if_pos (by decide +kernel)]; kernel_rfl) | (rw [if_neg (by decide +kernel)]; exact ⟨rfl, rfl⟩))
    (fun os started H enc _ => lifted os started H enc)

end Go.Proofs.Ytfgkbogccaiceaa.stuffBackP
