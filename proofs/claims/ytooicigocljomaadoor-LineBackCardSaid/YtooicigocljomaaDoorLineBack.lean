/- What is sent is read, numbers by their bits and bits by the turns of a wire: the law returns true for every input. No condition but what the card ties. -/
import Derived.Test.YtooicigocljomaaDoorCards
import Derived.Test.YtooicigocljomaaDoorTie
import Derived.Test.YtooicigocljomaaDoorLineLaid
import Derived.Deep.DeepHandedRow
import Derived.Lib.LaidTab
import Derived.LaidHandle
import Derived.SevenTiedAt
import Derived.Test.YtooicigocljomaaDoorLineLaw
namespace Go.Proofs.YtooicigocljomaaDoor.lineBackP
open Go.ChangeShapes Go.WideShapes Go.ChangeAt Go.RowKit
open Go.Proofs.YtooicigocljomaaDoor.Kit Go.Proofs.YtooicigocljomaaDoor.App Go.Proofs.YtooicigocljomaaDoor.LineMath Go.Proofs.YtooicigocljomaaDoor.Line
set_option linter.unusedVariables false
set_option maxRecDepth 20000

theorem four_ok (p : Option Addr) (cap n : Nat) (l : List Int) (w : World) (hn : n = l.length) (h : Ints w p cap l) (hC : Codes w) (h0 : bad 200 1 l = 0) (k5 : Nat) (h5 : 5 * k5 = n) (x : List Int) (hx : four l k5 = some x) :
    Calls Tryd.prog 17 #[.slice p n cap] w fun e w' => ∃ v, e = .returned (.tuple #[v, .nilIface]) ∧ OwnI w' w.heap.size v x ∧ Below w.heap.size w w' := by
  refine (four_any p cap n l w hC hn h h0 k5 h5 (some x) hx.symm).mono ?_
  rintro e w' ⟨hb, ⟨h1, _⟩ | ⟨x', v, h1, h2, h3⟩⟩
  · cases h1
  · cases h1; exact ⟨v, h2, h3, hb⟩

set_option maxHeartbeats 1000000 in
theorem law_gg (p p2 : Option Addr) (cap cap2 : Nat) (l bs : List Int) (w : World) (h : Ints w p cap l) (h2 : Ints w p2 cap2 bs) (hC : Codes w) (hb : bad 40 15 l = 0) (hb2 : bad 200 1 bs = 0) :
    Calls Tryd.prog 4 #[.slice p l.length cap, .slice p2 bs.length cap2] w fun e w' => e = .returned (.bool true) ∧ Below w.heap.size w w' := by
  have hlen := h.len_le
  have hlen2 := h2.len_le
  have HC := Lib.hid hC
  have hl := (bad_zero hb).1
  have hL := five_len l
  have hB5 := five_bits l
  have S := Lib.hid (fun W (hh : Ints W p cap l) (hc : Codes W) => five_ok p cap l.length l W rfl hh hb hc)
  have hF := four_five l (bad_zero hb).2
  obtain ⟨m, hm⟩ : ∃ m, five l = m := ⟨_, rfl⟩
  rw [hm] at S hL hB5 hF
  clear hm
  have hm0 : bad 200 1 m = 0 := bad_of (by omega) hB5
  have T := Lib.hid (fun q c W (hh : Ints W q c m) => turns_ok q c m.length m W rfl hh hm0)
  have hbt := unt_turns m hB5 0 (by omega)
  have htl := turns_len m 0
  have htb := turns_bits m 0
  obtain ⟨tn, htn⟩ : ∃ tn, turns 0 m = tn := ⟨_, rfl⟩
  rw [htn] at T hbt htl htb
  clear htn
  have hm200 : m.length ≤ 200 := by omega
  have ht200 : tn.length ≤ 200 := by omega
  have htn0 : bad 200 1 tn = 0 := bad_of (by omega) htb
  have U := fun q c W (hh : Ints W q c tn) => bits_ok q c tn.length tn W rfl hh htn0
  rw [hbt] at U
  have UU := Lib.hid U
  have V := Lib.hid (fun q c W (hh : Ints W q c m) (hc : Codes W) => four_ok q c m.length m W rfl hh hc hm0 l.length hL.symm l hF)
  clear hF hbt htl htb hL hB5 U hm0 htn0 hb
  have hl2 := (bad_zero hb2).1
  have T2 := Lib.hid (fun W (hh : Ints W p2 cap2 bs) => turns_ok p2 cap2 bs.length bs W rfl hh hb2)
  have hbt2 := unt_turns bs (bad_zero hb2).2 0 (by omega)
  have htl2 := turns_len bs 0
  have htb2 := turns_bits bs 0
  obtain ⟨t2, ht2⟩ : ∃ t2, turns 0 bs = t2 := ⟨_, rfl⟩
  rw [ht2] at T2 hbt2 htl2 htb2
  clear ht2
  have ht2200 : t2.length ≤ 200 := by omega
  have U2 := fun q c W (hh : Ints W q c t2) => bits_ok q c t2.length t2 W rfl hh (bad_of (by omega) htb2)
  rw [hbt2] at U2
  have UU2 := Lib.hid U2
  clear hbt2 htl2 htb2 U2 hb2
  clear hC
  go_enter Tryd.func4, Tryd.ntmps4
  go_wp2_with fail
  refine (fact_any _ HC.out).mono ?_; rintro e w1 ⟨rfl, hb1⟩
  go_wp2_with fail
  refine (S.out w1 (h.below hb1) (HC.out.below hb1)).mono ?_; rintro e w2 ⟨v, rfl, ho, hb2⟩
  obtain ⟨q, c, rfl, hi⟩ := ho.form
  have hB2 := bcall hb1 hb2
  clear ho hb2
  go_wp2_with fail
  refine (T.out q c w2 hi).mono ?_; rintro e w3 ⟨v3, rfl, ho3, hb3⟩
  obtain ⟨q3, c3, rfl, hi3⟩ := ho3.form
  have hB3 := bcall hB2 hb3
  have hi' := hi.below hb3
  clear ho3 hb3 hi hB2
  go_wp2_with fail
  refine (UU.out q3 c3 w3 hi3).mono ?_; rintro e w4 ⟨v4, rfl, ho4, hb4⟩
  obtain ⟨q4, c4, rfl, hi4⟩ := ho4.form
  have hB4 := bcall hB3 hb4
  have hi5 := hi'.below hb4
  clear ho4 hb4 hi' hi3 hB3
  go_wp2_with fail
  refine (V.out q4 c4 w4 hi4 (HC.out.below hB4)).mono ?_; rintro e w5 ⟨v5, rfl, ho5, hb5⟩
  obtain ⟨q5, c5, rfl, hk5⟩ := ho5.form
  have hB5 := bcall hB4 hb5
  have hi6 := hi5.below hb5
  have hi7 := hi4.below hb5
  clear ho5 hb5 hi5 hi4 hB4
  go_wp2_with fail
  refine (ints_any q4 q c4 c m.length m.length m m _ rfl rfl hi7 hi6 true (by simp)).mono ?_; rintro e w6 ⟨rfl, hb6⟩
  have hB6 := bcall hB5 hb6
  have hk6 := hk5.below hb6
  clear hi7 hi6 hb6 hk5 hB5
  go_wp2_with fail
  refine (ints_any q5 p c5 cap l.length l.length l l _ rfl rfl hk6 (h.below hB6) true (by simp)).mono ?_; rintro e w7 ⟨rfl, hb7⟩
  have hBa := bcall hB6 hb7
  have wa := w7
  clear hk6 hb7 hB6
  go_wp2_with fail
  refine (T2.out w7 (h2.below hBa)).mono ?_; rintro e w8 ⟨v8, rfl, ho8, hb8⟩
  obtain ⟨q8, c8, rfl, hi8⟩ := ho8.form
  have hB8 := bcall hBa hb8
  clear ho8 hb8
  go_wp2_with fail
  refine (UU2.out q8 c8 w8 hi8).mono ?_; rintro e w9 ⟨v9, rfl, ho9, hb9⟩
  obtain ⟨q9, c9, rfl, hi9⟩ := ho9.form
  have hB9 := bcall hB8 hb9
  clear ho9 hb9
  go_wp2_with fail
  refine (ints_any q9 p2 c9 cap2 bs.length bs.length bs bs _ rfl rfl hi9 (h2.below hB9) true (by simp)).mono ?_; rintro e w10 ⟨rfl, hb10⟩
  go_wp2_with fail
  go_ret
  exact ⟨rfl, bcall hB9 hb10⟩

set_option maxHeartbeats 1000000 in
theorem law_gb (p p2 : Option Addr) (cap cap2 : Nat) (l bs : List Int) (w : World) (h : Ints w p cap l) (h2 : Ints w p2 cap2 bs) (hC : Codes w) (hb : bad 40 15 l = 0) (hb2 : bad 200 1 bs ≠ 0) :
    Calls Tryd.prog 4 #[.slice p l.length cap, .slice p2 bs.length cap2] w fun e w' => e = .returned (.bool true) ∧ Below w.heap.size w w' := by
  have hlen := h.len_le
  have hlen2 := h2.len_le
  have HC := Lib.hid hC
  have hl := (bad_zero hb).1
  have hL := five_len l
  have hB5 := five_bits l
  have S := Lib.hid (fun W (hh : Ints W p cap l) (hc : Codes W) => five_ok p cap l.length l W rfl hh hb hc)
  have hF := four_five l (bad_zero hb).2
  obtain ⟨m, hm⟩ : ∃ m, five l = m := ⟨_, rfl⟩
  rw [hm] at S hL hB5 hF
  clear hm
  have hm0 : bad 200 1 m = 0 := bad_of (by omega) hB5
  have T := Lib.hid (fun q c W (hh : Ints W q c m) => turns_ok q c m.length m W rfl hh hm0)
  have hbt := unt_turns m hB5 0 (by omega)
  have htl := turns_len m 0
  have htb := turns_bits m 0
  obtain ⟨tn, htn⟩ : ∃ tn, turns 0 m = tn := ⟨_, rfl⟩
  rw [htn] at T hbt htl htb
  clear htn
  have hm200 : m.length ≤ 200 := by omega
  have ht200 : tn.length ≤ 200 := by omega
  have htn0 : bad 200 1 tn = 0 := bad_of (by omega) htb
  have U := fun q c W (hh : Ints W q c tn) => bits_ok q c tn.length tn W rfl hh htn0
  rw [hbt] at U
  have UU := Lib.hid U
  have V := Lib.hid (fun q c W (hh : Ints W q c m) (hc : Codes W) => four_ok q c m.length m W rfl hh hc hm0 l.length hL.symm l hF)
  clear hF hbt htl htb hL hB5 U hm0 htn0 hb
  have T2 := Lib.hid (fun W (hh : Ints W p2 cap2 bs) => turns_bad p2 cap2 bs.length bs W rfl hh (bad 200 1 bs) rfl hb2)
  clear hb2
  clear hC
  go_enter Tryd.func4, Tryd.ntmps4
  go_wp2_with fail
  refine (fact_any _ HC.out).mono ?_; rintro e w1 ⟨rfl, hb1⟩
  go_wp2_with fail
  refine (S.out w1 (h.below hb1) (HC.out.below hb1)).mono ?_; rintro e w2 ⟨v, rfl, ho, hb2⟩
  obtain ⟨q, c, rfl, hi⟩ := ho.form
  have hB2 := bcall hb1 hb2
  clear ho hb2
  go_wp2_with fail
  refine (T.out q c w2 hi).mono ?_; rintro e w3 ⟨v3, rfl, ho3, hb3⟩
  obtain ⟨q3, c3, rfl, hi3⟩ := ho3.form
  have hB3 := bcall hB2 hb3
  have hi' := hi.below hb3
  clear ho3 hb3 hi hB2
  go_wp2_with fail
  refine (UU.out q3 c3 w3 hi3).mono ?_; rintro e w4 ⟨v4, rfl, ho4, hb4⟩
  obtain ⟨q4, c4, rfl, hi4⟩ := ho4.form
  have hB4 := bcall hB3 hb4
  have hi5 := hi'.below hb4
  clear ho4 hb4 hi' hi3 hB3
  go_wp2_with fail
  refine (V.out q4 c4 w4 hi4 (HC.out.below hB4)).mono ?_; rintro e w5 ⟨v5, rfl, ho5, hb5⟩
  obtain ⟨q5, c5, rfl, hk5⟩ := ho5.form
  have hB5 := bcall hB4 hb5
  have hi6 := hi5.below hb5
  have hi7 := hi4.below hb5
  clear ho5 hb5 hi5 hi4 hB4
  go_wp2_with fail
  refine (ints_any q4 q c4 c m.length m.length m m _ rfl rfl hi7 hi6 true (by simp)).mono ?_; rintro e w6 ⟨rfl, hb6⟩
  have hB6 := bcall hB5 hb6
  have hk6 := hk5.below hb6
  clear hi7 hi6 hb6 hk5 hB5
  go_wp2_with fail
  refine (ints_any q5 p c5 cap l.length l.length l l _ rfl rfl hk6 (h.below hB6) true (by simp)).mono ?_; rintro e w7 ⟨rfl, hb7⟩
  have hBa := bcall hB6 hb7
  have wa := w7
  clear hk6 hb7 hB6
  go_wp2_with fail
  refine (T2.out w7 (h2.below hBa)).mono ?_; rintro e w8 ⟨rfl, rfl⟩
  go_wp2_with fail
  go_ret
  exact ⟨rfl, hBa⟩

set_option maxHeartbeats 1000000 in
theorem law_bg (p p2 : Option Addr) (cap cap2 : Nat) (l bs : List Int) (w : World) (h : Ints w p cap l) (h2 : Ints w p2 cap2 bs) (hC : Codes w) (hb : bad 40 15 l ≠ 0) (hb2 : bad 200 1 bs = 0) :
    Calls Tryd.prog 4 #[.slice p l.length cap, .slice p2 bs.length cap2] w fun e w' => e = .returned (.bool true) ∧ Below w.heap.size w w' := by
  have hlen := h.len_le
  have hlen2 := h2.len_le
  have HC := Lib.hid hC
  have S := Lib.hid (fun W (hh : Ints W p cap l) => five_bad p cap l.length l W rfl hh (bad 40 15 l) rfl hb)
  clear hb
  have hl2 := (bad_zero hb2).1
  have T2 := Lib.hid (fun W (hh : Ints W p2 cap2 bs) => turns_ok p2 cap2 bs.length bs W rfl hh hb2)
  have hbt2 := unt_turns bs (bad_zero hb2).2 0 (by omega)
  have htl2 := turns_len bs 0
  have htb2 := turns_bits bs 0
  obtain ⟨t2, ht2⟩ : ∃ t2, turns 0 bs = t2 := ⟨_, rfl⟩
  rw [ht2] at T2 hbt2 htl2 htb2
  clear ht2
  have ht2200 : t2.length ≤ 200 := by omega
  have U2 := fun q c W (hh : Ints W q c t2) => bits_ok q c t2.length t2 W rfl hh (bad_of (by omega) htb2)
  rw [hbt2] at U2
  have UU2 := Lib.hid U2
  clear hbt2 htl2 htb2 U2 hb2
  clear hC
  go_enter Tryd.func4, Tryd.ntmps4
  go_wp2_with fail
  refine (fact_any _ HC.out).mono ?_; rintro e w1 ⟨rfl, hb1⟩
  go_wp2_with fail
  refine (S.out w1 (h.below hb1)).mono ?_; rintro e w2 ⟨rfl, rfl⟩
  have hBa := hb1
  go_wp2_with fail
  refine (T2.out w1 (h2.below hBa)).mono ?_; rintro e w8 ⟨v8, rfl, ho8, hb8⟩
  obtain ⟨q8, c8, rfl, hi8⟩ := ho8.form
  have hB8 := bcall hBa hb8
  clear ho8 hb8
  go_wp2_with fail
  refine (UU2.out q8 c8 w8 hi8).mono ?_; rintro e w9 ⟨v9, rfl, ho9, hb9⟩
  obtain ⟨q9, c9, rfl, hi9⟩ := ho9.form
  have hB9 := bcall hB8 hb9
  clear ho9 hb9
  go_wp2_with fail
  refine (ints_any q9 p2 c9 cap2 bs.length bs.length bs bs _ rfl rfl hi9 (h2.below hB9) true (by simp)).mono ?_; rintro e w10 ⟨rfl, hb10⟩
  go_wp2_with fail
  go_ret
  exact ⟨rfl, bcall hB9 hb10⟩

set_option maxHeartbeats 1000000 in
theorem law_bb (p p2 : Option Addr) (cap cap2 : Nat) (l bs : List Int) (w : World) (h : Ints w p cap l) (h2 : Ints w p2 cap2 bs) (hC : Codes w) (hb : bad 40 15 l ≠ 0) (hb2 : bad 200 1 bs ≠ 0) :
    Calls Tryd.prog 4 #[.slice p l.length cap, .slice p2 bs.length cap2] w fun e w' => e = .returned (.bool true) ∧ Below w.heap.size w w' := by
  have hlen := h.len_le
  have hlen2 := h2.len_le
  have HC := Lib.hid hC
  have S := Lib.hid (fun W (hh : Ints W p cap l) => five_bad p cap l.length l W rfl hh (bad 40 15 l) rfl hb)
  clear hb
  have T2 := Lib.hid (fun W (hh : Ints W p2 cap2 bs) => turns_bad p2 cap2 bs.length bs W rfl hh (bad 200 1 bs) rfl hb2)
  clear hb2
  clear hC
  go_enter Tryd.func4, Tryd.ntmps4
  go_wp2_with fail
  refine (fact_any _ HC.out).mono ?_; rintro e w1 ⟨rfl, hb1⟩
  go_wp2_with fail
  refine (S.out w1 (h.below hb1)).mono ?_; rintro e w2 ⟨rfl, rfl⟩
  have hBa := hb1
  go_wp2_with fail
  refine (T2.out w1 (h2.below hBa)).mono ?_; rintro e w8 ⟨rfl, rfl⟩
  go_wp2_with fail
  go_ret
  exact ⟨rfl, hBa⟩

theorem law_any (p p2 : Option Addr) (cap cap2 : Nat) (l bs : List Int) (w : World) (h : Ints w p cap l) (h2 : Ints w p2 cap2 bs) (hC : Codes w) :
    Calls Tryd.prog 4 #[.slice p l.length cap, .slice p2 bs.length cap2] w fun e w' => e = .returned (.bool true) ∧ Below w.heap.size w w' := by
  by_cases hb : bad 40 15 l = 0
  · by_cases hb2 : bad 200 1 bs = 0
    · exact law_gg p p2 cap cap2 l bs w h h2 hC hb hb2
    · exact law_gb p p2 cap cap2 l bs w h h2 hC hb hb2
  · by_cases hb2 : bad 200 1 bs = 0
    · exact law_bg p p2 cap cap2 l bs w h h2 hC hb hb2
    · exact law_bb p p2 cap cap2 l bs w h h2 hC hb hb2

theorem reads : Tryd.f4.params.toList.all (fun t => Tryd.prog.readableRec t && decide (t < Tryd.prog.types.size)) = true := by kernel_rfl

theorem codes_of {W : World} (h : laidMetH Tryd.prog Rows.lineBackRow.laid W) : Line.Codes W := by
  have h' : laidMet Tryd.prog [("ferryhythe/line.codes", Rows.laid_ferryhythe_line_codes)] W := h
  exact Line.codes_of_laid h'

noncomputable def laidWorld (os : Os) : World :=
  { World.holding Tryd.prog os ⟨#[], #[], []⟩ with heap := (World.holding Tryd.prog os ⟨#[], #[], []⟩).heap.modify 0 fun
      | .cells _ t frozen => .cells (LineMath.tab.map (Value.int .i64)).toArray t frozen
      | o => o }
theorem laid_met (os : Os) : laidMetH Tryd.prog Rows.lineBackRow.laid ((laidWorld os).forCall (fun _ _ => 0) ⟨#[], #[.slice none 0 0, .slice none 0 0], []⟩).memory :=
  show laidMet Tryd.prog [("ferryhythe/line.codes", Rows.laid_ferryhythe_line_codes)] _ from laidMet_of_run' 10 (by kernel_rfl) (by kernel_rfl)
theorem reads_wit (os : Os) {H : Type} (enc : TypeId × Value → H) : ∃ places, DataW.whole enc Tryd.prog ((laidWorld os).forCall (fun _ _ => 0) ⟨#[], #[.slice none 0 0, .slice none 0 0], []⟩).memory Tryd.f4.params.toList Rows.lineBackSpec.vars false (#[.slice none 0 0, .slice none 0 0] : Array Value).toList 8 = some ([.nil, .nil], [], places) :=
  ⟨[], by kernel_rfl⟩

theorem contract (H : Type) (enc : TypeId × Value → H) (W : World) (base : Nat) (args : Array Value) (ds gs : List (DataW H)) (before : List MemPlace)
    (hval : ∀ (j : Nat) t v, Tryd.f4.params[j]? = some t → args[j]? = some v → Value.okWide Tryd.prog W .any base t v)
    (hW : DataW.Whole enc Tryd.prog Tryd.f4.params.toList Rows.lineBackSpec.vars false W args.toList ds gs before) (hL : laidMetH Tryd.prog Rows.lineBackRow.laid W) :
    Calls Tryd.prog 4 args W fun e W' => ∃ v, e = .returned v ∧ Rows.lineBackSpec.post enc Tryd.prog Tryd.f4 false true false false W args v W' := by
  have hW' := hW
  have hC := codes_of hL
  obtain ⟨p, q, hA0, hV, rfl, hfz, hnd⟩ := hW
  have hA : DataW.TrodAll enc Tryd.prog W 0 (fun _ => true) true Tryd.f4.params.toList args.toList ds p := hA0
  have hlt := hA.lt
  rw [Tryd.params4] at hA hval
  obtain ⟨v0, vs0, d0, ds0, p0, q0, hargs, rfl, rfl, h0, r0⟩ := trodAll_cons hA
  obtain ⟨v1, vs1, d1, ds1, p1, q1, hvs1, rfl, rfl, h1, r1⟩ := trodAll_cons r0
  obtain ⟨hvsn, rfl, rfl⟩ := trodAll_nil r1
  simp only [hvsn, hvs1] at hargs
  obtain rfl : args = #[v0, v1] := by cases args; simp_all
  obtain ⟨p0a, cap0, l0, rfl, i0⟩ := open_intsl Tryd.underlying22 Tryd.underlying3 (by kernel_rfl) (hval 0 22 v0 rfl rfl) h0 (fun x hx => hlt x (by simp [hx]))
  obtain ⟨p1a, cap1, l1, rfl, i1⟩ := open_intsl Tryd.underlying22 Tryd.underlying3 (by kernel_rfl) (hval 1 22 v1 rfl rfl) h1 (fun x hx => hlt x (by simp [hx]))
  obtain ⟨rfl, rfl⟩ := trodVars_none hV
  clear hA0
  exact law_post 4 laid reads rfl Tryd.underlying4 rfl hW' ⟨rfl, rfl, rfl⟩ (law_any p0a p1a cap0 cap1 l0 l1 W i0 i1 hC)

set_option maxRecDepth 100000 in
theorem lifted (os : Os) (started : os.Started) (H : Type) (enc : TypeId × Value → H) (F : Stop.Interp) :
    ReturnsInHanded {} Tryd.checked os 4 .any ((OpenSpec.ofChange Rows.lineBackSpec).preRow enc Tryd.prog Tryd.f4 Rows.lineBackRow.domain false Rows.lineBackRow.laid) (((OpenSpec.ofChange Rows.lineBackSpec).at F).post enc Tryd.prog Tryd.f4 false true false false) := by
  obtain ⟨places, hx⟩ := reads_wit os enc
  refine returnsInHanded_of_row (C := Tryd.checked) (s := (OpenSpec.ofChange Rows.lineBackSpec)) own started (by kernel_rfl) Tryd.func4
    (witness_row_at (enc := enc) (C := Tryd.checked) false (laidWorld os) #[.slice none 0 0, .slice none 0 0] rfl (by kernel_rfl) (by kernel_rfl) (by kernel_rfl)
      (OpenSpec.preRow_of_cond 8 hx (by kernel_rfl) (fun k hk => by cases hk) (by kernel_rfl) (laid_met os))) ?_
  intro W base args ds gs before hval hW _ hcond _ hL _ _
  exact contract H enc W base args ds gs before hval hW hL

theorem said : Rows.LineBackSaid :=
  OpenClaim.holds_of_cond 4 Tryd.f4 rfl rfl rfl rfl rfl rfl rfl ⟨rfl, rfl, rfl, rfl, rfl⟩ rfl rfl rfl rfl rfl (by kernel_rfl) Tryd.func4 (by kernel_rfl)
    (of_decide_eq_true (by kernel_rfl)) (by unfold Func.isWrapper; first | (rw [if_pos (by decide +kernel)]; kernel_rfl) | (rw [if_neg (by decide +kernel)]; exact ⟨rfl, rfl⟩))
    (fun os started H enc _ F => by rw [OpenClaim.pre_eq_preRow]; exact lifted os started H enc F)

theorem plain (f : FuncId) (fn : Func) (hf : Tryd.pinned.checked.prog.funcNamed Rows.lineBackRow.func = some f) (hfn : Tryd.pinned.checked.prog.funcs[f]? = some fn) :
    true = Tryd.pinned.checked.prog.looks [] ∧ ∀ (j : Nat) t, fn.params[j]? = some t → Tryd.pinned.checked.prog.wantsStandIn t = false := by
  obtain rfl : f = 4 := Option.some.inj ((show Tryd.prog.funcNamed Rows.lineBackRow.func = some 4 by kernel_rfl).symm.trans hf) |>.symm
  obtain rfl : fn = Tryd.f4 := (Option.some.inj (Tryd.func4.symm.trans hfn)).symm
  refine ⟨by kernel_rfl, fun j t ht => ?_⟩
  have hall : Tryd.f4.params.toList.all (fun t => !Tryd.prog.wantsStandIn t) = true := by kernel_rfl
  have hm : t ∈ Tryd.f4.params.toList := by simpa using Array.mem_of_getElem? ht
  have := List.all_eq_true.1 hall t hm
  show Tryd.prog.wantsStandIn t = false
  simpa using this

theorem proved : Rows.LineBackCardSaid :=
  Claim7.holds_tied_plain_at .later [] _ _ _ _ said (fun _ h => by cases h) (by kernel_rfl) (fun _ h => by cases h) lineBack_row_tie rfl ⟨rfl, rfl⟩ (by kernel_rfl) rfl plain (by kernel_rfl)

end Go.Proofs.YtooicigocljomaaDoor.lineBackP
