/- Stuffed bits contain no six consecutive ones and grow by at most a fifth: the law returns true for every input. No condition. -/
import Derived.Test.YtfgkbogccaiceaaStuffLaw
namespace Go.Proofs.Ytfgkbogccaiceaa.stuffFlagP
open Go.ChangeShapes Go.WideShapes Go.ChangeAt Go.RowKit
open Go.Proofs.Ytfgkbogccaiceaa.Kit Go.Proofs.Ytfgkbogccaiceaa.App Go.Proofs.Ytfgkbogccaiceaa.StuffMath Go.Proofs.Ytfgkbogccaiceaa.Stuff
set_option linter.unusedVariables false

theorem law_bad (p : Option Addr) (cap : Nat) (l : List Int) (w : World) (h : Ints w p cap l) (hb : bad l ≠ 0) :
    Calls Try.prog 4 #[.slice p l.length cap] w fun e w' => e = .returned (.bool true) ∧ Below w.heap.size w w' := by
  have hlen := h.len_le
  have S := Lib.hid (fun W (hh : Ints W p cap l) => stuff_bad p cap l.length l W rfl hh (bad l) rfl hb)
  clear hb
  go_enter Try.func4, Try.ntmps4
  go_wp2_with fail
  refine (fact_any _).mono ?_; rintro e w1 ⟨rfl, hb1⟩
  go_wp2_with fail
  refine (S.out w1 (h.below hb1)).mono ?_; rintro e w2 ⟨rfl, rfl⟩
  go_wp2_with fail
  go_ret
  exact ⟨rfl, hb1⟩

theorem ok6_step {m : List Int} {c k : Nat} (h : ok6 c (m.drop k)) (hc : c ≤ 5) (hk : k < m.length) {x : Int} (hx : m[k]?.getD 0 = x) : cnt c x ≤ 5 ∧ ok6 (cnt c x) (m.drop (k + 1)) := by
  subst hx
  rw [drop_get hk] at h
  obtain ⟨h1, h2⟩ := h
  refine ⟨?_, h2⟩
  have : cnt c (m[k]?.getD 0) ≤ c + 1 := by unfold cnt; split <;> omega
  omega

set_option maxHeartbeats 1000000 in
theorem law_good (p : Option Addr) (cap : Nat) (l : List Int) (w : World) (h : Ints w p cap l) (hb : bad l = 0) :
    Calls Try.prog 4 #[.slice p l.length cap] w fun e w' => e = .returned (.bool true) ∧ Below w.heap.size w w' := by
  have hlen := h.len_le
  have hl := (bad_zero hb).1
  have hL := stf_len l 0 (by omega)
  have S := Lib.hid (fun W (hh : Ints W p cap l) => stuff_ok p cap l.length l W rfl hh hb)
  have H6 := Lib.hid (ok6_stf l 0 (by omega))
  have HB := Lib.hid (stf_bits l 0 (bad_zero hb).2)
  clear hb
  obtain ⟨m, hm⟩ : ∃ m, stf 0 l = m := ⟨_, rfl⟩
  rw [hm] at hL S H6 HB
  clear hm
  have hm1 : l.length ≤ m.length := hL.1
  have hm2 : 5 * m.length ≤ 6 * l.length := by omega
  clear hL
  go_enter Try.func4, Try.ntmps4
  go_wp2_with fail
  refine (fact_any _).mono ?_; rintro e w1 ⟨rfl, hb1⟩
  go_wp2_with fail
  refine (S.out w1 (h.below hb1)).mono ?_; rintro e w2 ⟨v, rfl, ho, hb2⟩
  obtain ⟨q, cap2, rfl, hi⟩ := ho.form
  have hB := bcall hb1 hb2
  clear ho hb1 hb2 h
  go_wp2_with fail
  go_loop [6, 7] (fun o i => ∃ (k c : Nat), k ≤ m.length ∧ c ≤ 5 ∧ o = .int .i64 c ∧ i = .int .i64 k ∧ Hid (ok6 c (m.drop k))) (fun _ i => m.length - (intOf i).toNat)
  case atStart => exact ⟨0, 0, Nat.zero_le _, by omega, rfl, rfl, H6.out⟩
  case round =>
    obtain ⟨k, c, hk, hc5, rfl, rfl, HE⟩ := hrel
    by_cases hlt : k < m.length
    · obtain ⟨b, off, rfl, hbw, hc⟩ := hi.2.2.2 (by omega)
      have hck := hc k hlt
      have hbit := bit_get HB.out k
      clear hc hi
      obtain ⟨x, hx⟩ : ∃ x, m[k]?.getD 0 = x := ⟨_, rfl⟩
      rw [hx] at hck hbit
      have HS := Lib.hid (ok6_step HE.out hc5 hlt hx)
      clear hx
      by_cases h0 : x = 0
      · subst h0
        go_wp2_with fail
        refine (in_yes 0 0 1 _ (by omega)).mono ?_; rintro e w3 ⟨rfl, rfl⟩
        go_wp2_with fail
        go_round
        case rel => exact ⟨k + 1, 0, by omega, by omega, rfl, by go_num, HS.out.2⟩
        case measure => simp [intOf]; omega
      · obtain rfl : x = 1 := by omega
        have h5 : c + 1 ≤ 5 := HS.out.1
        have t6 : ((c : Int) + 1 == 6) = false := by rw [beq_eq_false_iff_ne]; omega
        go_wp2_with fail
        refine (in_yes 1 0 1 _ (by omega)).mono ?_; rintro e w3 ⟨rfl, rfl⟩
        go_wp2_with fail
        go_round
        case rel => exact ⟨k + 1, c + 1, by omega, by omega, by go_num, by go_num, HS.out.2⟩
        case measure => simp [intOf]; omega
    · obtain rfl : k = m.length := by omega
      have t1 : decide ((l.length : Int) ≤ (m.length : Int)) = true := decide_eq_true (by omega)
      have t2 : decide (5 * ((m.length : Int) - (l.length : Int)) ≤ (l.length : Int)) = true := decide_eq_true (by omega)
      go_wp2_with fail
      go_ret
      exact ⟨rfl, hB⟩

theorem law_any (p : Option Addr) (cap : Nat) (l : List Int) (w : World) (h : Ints w p cap l) :
    Calls Try.prog 4 #[.slice p l.length cap] w fun e w' => e = .returned (.bool true) ∧ Below w.heap.size w w' := by
  by_cases hb : bad l = 0
  · exact law_good p cap l w h hb
  · exact law_bad p cap l w h hb

theorem reads : Try.f4.params.toList.all (fun t => Try.prog.readableRec t && decide (t < Try.prog.types.size)) = true := by kernel_rfl

theorem contract (H : Type) (enc : TypeId × Value → H) (W : World) (base : Nat) (args : Array Value) (ds gs : List (DataW H)) (before : List MemPlace)
    (hval : ∀ (j : Nat) t v, Try.f4.params[j]? = some t → args[j]? = some v → Value.okWide Try.prog W .any base t v)
    (hW : DataW.Whole enc Try.prog Try.f4.params.toList Rows.stuffFlagSpec.vars false W args.toList ds gs before) :
    Calls Try.prog 4 args W fun e W' => ∃ v, e = .returned v ∧ Rows.stuffFlagSpec.post enc Try.prog Try.f4 false true false false W args v W' := by
  have hW' := hW
  obtain ⟨p, q, hA0, hV, rfl, hfz, hnd⟩ := hW
  have hA : DataW.TrodAll enc Try.prog W 0 (fun _ => true) true Try.f4.params.toList args.toList ds p := hA0
  have hlt := hA.lt
  rw [Try.params4] at hA hval
  obtain ⟨v0, vs0, d0, ds0, p0, q0, hargs, rfl, rfl, h0, r0⟩ := trodAll_cons hA
  obtain ⟨hvsn, rfl, rfl⟩ := trodAll_nil r0
  simp only [hvsn] at hargs
  obtain rfl : args = #[v0] := by cases args; simp_all
  obtain ⟨rfl, rfl⟩ := trodVars_none hV
  clear hA0
  obtain ⟨p0a, cap0, l0, rfl, i0⟩ := open_intsl Try.underlying22 Try.underlying3 (by kernel_rfl) (hval 0 22 v0 rfl rfl) h0 (fun x hx => hlt x (by simp [hx]))
  exact law_post 4 laid reads rfl Try.underlying4 rfl hW' ⟨rfl, rfl, rfl⟩ (law_any p0a cap0 l0 W i0)

set_option maxRecDepth 100000 in
theorem lifted (os : Os) (started : os.Started) (H : Type) (enc : TypeId × Value → H) :
    ReturnsInHanded {} Try.checked os 4 .any (Rows.stuffFlagSpec.pre6 enc Try.prog Try.f4 Rows.stuffFlagRow.domain false) (Rows.stuffFlagSpec.post enc Try.prog Try.f4 false true false false) := by
  refine returnsInHanded_of_change (C := Try.checked) own started (by kernel_rfl) Try.func4
    (ChangeSpec.witness6 (enc := enc) (C := Try.checked) false ⟨#[], #[.slice none 0 0], []⟩ 8 (by kernel_rfl) (by kernel_rfl) (by kernel_rfl) (by kernel_rfl)) ?_
  intro W base args ds gs before hval hW _ _
  exact contract H enc W base args ds gs before hval hW

theorem proved : Rows.StuffFlagSaid :=
  OpenClaim.holds_of_wide 4 Try.f4 rfl rfl rfl rfl rfl rfl rfl ⟨rfl, rfl, rfl, rfl, rfl⟩ rfl rfl rfl rfl rfl (by kernel_rfl) Try.func4 (by kernel_rfl)
    (of_decide_eq_true (by kernel_rfl)) (by unfold Func.isWrapper; first | (rw [if_pos (by decide +kernel)]; kernel_rfl) | (rw [if_neg (by decide +kernel)]; exact ⟨rfl, rfl⟩))
    (fun os started H enc _ => lifted os started H enc)

end Go.Proofs.Ytfgkbogccaiceaa.stuffFlagP
