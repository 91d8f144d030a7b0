/- What is written has no 0, is read as it was, and is longer by at most one byte for each 254 and one: the law returns true for every input. No condition. -/
import Derived.Test.YtnpbdfmeaklbnaaCobsLaw
namespace Go.Proofs.Ytnpbdfmeaklbnaa.cobsBackP
open Go.ChangeShapes Go.WideShapes Go.ChangeAt Go.RowKit
open Go.Proofs.Ytnpbdfmeaklbnaa.Kit Go.Proofs.Ytnpbdfmeaklbnaa.App Go.Proofs.Ytnpbdfmeaklbnaa.CobsMath Go.Proofs.Ytnpbdfmeaklbnaa.Cobs
set_option linter.unusedVariables false
set_option maxRecDepth 20000

theorem law_bad (p : Option Addr) (cap : Nat) (l : List Int) (w : World) (h : Ints w p cap l) (hb : bad 600 l ≠ 0) :
    Calls Try.prog 3 #[.slice p l.length cap] w fun e w' => e = .returned (.bool true) ∧ Below w.heap.size w w' := by
  have hlen := h.len_le
  have S := Lib.hid (fun W (hh : Ints W p cap l) => write_bad p cap l.length l W rfl hh (bad 600 l) rfl hb)
  clear hb
  go_enter Try.func3, Try.ntmps3
  go_wp2_with fail
  refine (fact_any _).mono ?_; rintro e w1 ⟨rfl, hb1⟩
  go_wp2_with fail
  refine (S.out w1 (h.below hb1)).mono ?_; rintro e w2 ⟨rfl, rfl⟩
  go_wp2_with fail
  go_ret
  exact ⟨rfl, hb1⟩

set_option maxHeartbeats 1000000 in
theorem law_good (p : Option Addr) (cap : Nat) (l : List Int) (w : World) (h : Ints w p cap l) (hb : bad 600 l = 0) :
    Calls Try.prog 3 #[.slice p l.length cap] w fun e w' => e = .returned (.bool true) ∧ Below w.heap.size w w' := by
  have hlen := h.len_le
  have hl := (bad_zero hb).1
  have hL := enc_len l
  have S := Lib.hid (fun W (hh : Ints W p cap l) => write_ok p cap l.length l W rfl hh hb)
  have HI := Lib.hid (enc_in l (bad_zero hb).2)
  have HD := Lib.hid (dec_enc l)
  have HB := Lib.hid (enc_byt (bad_zero hb).2)
  have HN := Lib.hid (enc_ne l)
  clear hb
  obtain ⟨m, hm⟩ : ∃ m, enc l = m := ⟨_, rfl⟩
  rw [hm] at hL S HI HD HB HN
  clear hm
  obtain ⟨hm1, hm2⟩ := hL
  have R := Lib.hid (fun q c W (hh : Ints W q c m) => read_ok q c m.length m W rfl hh (bad_of (by omega) HB.out) HN.out l HD.out hl)
  go_enter Try.func3, Try.ntmps3
  go_wp2_with fail
  refine (fact_any _).mono ?_; rintro e w1 ⟨rfl, hb1⟩
  go_wp2_with fail
  refine (S.out w1 (h.below hb1)).mono ?_; rintro e w2 ⟨v, rfl, ho, hb2⟩
  obtain ⟨q, cap2, rfl, hi⟩ := ho.form
  have hB := bcall hb1 hb2
  have hj := h.below hB
  clear ho hb1 hb2 h
  go_wp2_with fail
  go_loop [6] (fun i => ∃ (k : Nat), k ≤ m.length ∧ i = .int .i64 k) (fun i => m.length - (intOf i).toNat)
  case atStart => exact ⟨0, Nat.zero_le _, rfl⟩
  case round =>
    obtain ⟨k, hk, rfl⟩ := hrel
    by_cases hlt : k < m.length
    · obtain ⟨b, off, rfl, hbw, hc⟩ := hi.2.2.2 (by omega)
      have hck := hc k hlt
      have hin := HI.out _ (List.getElem_mem hlt)
      have hxe : m[k]?.getD 0 = m[k] := by rw [List.getElem?_eq_getElem hlt]; rfl
      rw [← hxe] at hin
      clear hxe
      obtain ⟨x, hx⟩ : ∃ x, m[k]?.getD 0 = x := ⟨_, rfl⟩
      rw [hx] at hin hck
      clear hc hi hx
      go_wp2_with fail
      refine (in_yes x 1 255 _ hin).mono ?_; rintro e w3 ⟨rfl, rfl⟩
      go_wp2_with fail
      go_round
      case rel => exact ⟨k + 1, by omega, by go_num⟩
      case measure => simp [intOf]; omega
    · obtain rfl : k = m.length := by omega
      go_wp2_with fail
      refine (R.out q cap2 w2 hi).mono ?_; rintro e w3 ⟨v3, rfl, ho3, hb3⟩
      obtain ⟨q3, cap3, rfl, hi3⟩ := ho3.form
      have hB3 := bcall hB hb3
      have hj3 := hj.below hb3
      clear ho3
      have t1 : decide ((m.length : Int) > (l.length : Int)) = true := decide_eq_true (by omega)
      go_wp2_with fail
      refine (ints_any q3 p cap3 cap l.length l.length l l _ rfl rfl hi3 hj3 true (by simp)).mono ?_; rintro e w4 ⟨rfl, hb4⟩
      have hB4 := bcall hB3 hb4
      have t2 : decide ((m.length : Int) ≤ (l.length : Int) + 1 + (l.length : Int) / 254) = true := decide_eq_true (by omega)
      go_wp2_with fail
      go_ret
      exact ⟨rfl, hB4⟩

theorem law_any (p : Option Addr) (cap : Nat) (l : List Int) (w : World) (h : Ints w p cap l) :
    Calls Try.prog 3 #[.slice p l.length cap] w fun e w' => e = .returned (.bool true) ∧ Below w.heap.size w w' := by
  by_cases hb : bad 600 l = 0
  · exact law_good p cap l w h hb
  · exact law_bad p cap l w h hb

theorem reads : Try.f3.params.toList.all (fun t => Try.prog.readableRec t && decide (t < Try.prog.types.size)) = true := by kernel_rfl

theorem contract (H : Type) (enc : TypeId × Value → H) (W : World) (base : Nat) (args : Array Value) (ds gs : List (DataW H)) (before : List MemPlace)
    (hval : ∀ (j : Nat) t v, Try.f3.params[j]? = some t → args[j]? = some v → Value.okWide Try.prog W .any base t v)
    (hW : DataW.Whole enc Try.prog Try.f3.params.toList Rows.cobsBackSpec.vars false W args.toList ds gs before) :
    Calls Try.prog 3 args W fun e W' => ∃ v, e = .returned v ∧ Rows.cobsBackSpec.post enc Try.prog Try.f3 false true false false W args v W' := by
  have hW' := hW
  obtain ⟨p, q, hA0, hV, rfl, hfz, hnd⟩ := hW
  have hA : DataW.TrodAll enc Try.prog W 0 (fun _ => true) true Try.f3.params.toList args.toList ds p := hA0
  have hlt := hA.lt
  rw [Try.params3] at hA hval
  obtain ⟨v0, vs0, d0, ds0, p0, q0, hargs, rfl, rfl, h0, r0⟩ := trodAll_cons hA
  obtain ⟨hvsn, rfl, rfl⟩ := trodAll_nil r0
  simp only [hvsn] at hargs
  obtain rfl : args = #[v0] := by cases args; simp_all
  obtain ⟨rfl, rfl⟩ := trodVars_none hV
  clear hA0
  obtain ⟨p0a, cap0, l0, rfl, i0⟩ := open_intsl Try.underlying22 Try.underlying3 (by kernel_rfl) (hval 0 22 v0 rfl rfl) h0 (fun x hx => hlt x (by simp [hx]))
  exact law_post 4 laid reads rfl Try.underlying4 rfl hW' ⟨rfl, rfl, rfl⟩ (law_any p0a cap0 l0 W i0)

set_option maxRecDepth 100000 in
theorem lifted (os : Os) (started : os.Started) (H : Type) (enc : TypeId × Value → H) :
    ReturnsInHanded {} Try.checked os 3 .any (Rows.cobsBackSpec.pre6 enc Try.prog Try.f3 Rows.cobsBackRow.domain false) (Rows.cobsBackSpec.post enc Try.prog Try.f3 false true false false) := by
  refine returnsInHanded_of_change (C := Try.checked) own started (by kernel_rfl) Try.func3
    (ChangeSpec.witness6 (enc := enc) (C := Try.checked) false ⟨#[], #[.slice none 0 0], []⟩ 8 (by kernel_rfl) (by kernel_rfl) (by kernel_rfl) (by kernel_rfl)) ?_
  intro W base args ds gs before hval hW _ _
  exact contract H enc W base args ds gs before hval hW

theorem proved : Rows.CobsBackSaid :=
  OpenClaim.holds_of_wide 3 Try.f3 rfl rfl rfl rfl rfl rfl rfl ⟨rfl, rfl, rfl, rfl, rfl⟩ rfl rfl rfl rfl rfl (by kernel_rfl) Try.func3 (by kernel_rfl)
    (of_decide_eq_true (by kernel_rfl)) (by unfold Func.isWrapper; first | (rw [if_pos (by decide +kernel)]; kernel_rfl) | (rw [if_neg (by decide +kernel)]; exact ⟨rfl, rfl⟩))
    (fun os started H enc _ => lifted os started H enc)

end Go.Proofs.Ytnpbdfmeaklbnaa.cobsBackP
