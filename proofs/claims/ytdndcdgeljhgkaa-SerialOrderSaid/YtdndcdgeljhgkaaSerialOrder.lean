/- Within 128 steps the comparison of serial numbers is a total order: the law returns true for every input. No condition. -/
import Derived.Test.YtdndcdgeljhgkaaSerial
namespace Go.Proofs.Ytdndcdgeljhgkaa.serialOrderP
open Go.ChangeShapes Go.WideShapes Go.ChangeAt Go.RowKit
open Go.Proofs.Ytdndcdgeljhgkaa.Kit Go.Proofs.Ytdndcdgeljhgkaa.Serial
set_option linter.unusedVariables false

theorem walk (a n m : Int) (w : World) : Calls Try.prog 5 #[.int .i64 a, .int .i64 n, .int .i64 m] w fun e w' => e = .returned (.bool true) ∧ w = w' := by
  by_cases hn : 0 ≤ n ∧ n ≤ 127
  · have C0 := Lib.hid (in_yes n 0 127 w hn)
    by_cases hm : 0 ≤ m ∧ m ≤ 127 - n
    · have C1 := Lib.hid (in_yes m 0 (127 - n) w hm)
      by_cases ha : 0 ≤ a ∧ a ≤ 255
      · obtain ⟨b, hb⟩ : ∃ b, b = (a + n) % 256 := ⟨_, rfl⟩
        obtain ⟨c, hc⟩ : ∃ c, c = (a + (n + m)) % 256 := ⟨_, rfl⟩
        obtain ⟨z, hz⟩ : ∃ z, z = decide (0 < n + m) := ⟨_, rfl⟩
        have e1 : (c - a) % 256 = n + m := by omega
        have hx : z = decide (1 ≤ (c - a) % 256 ∧ (c - a) % 256 ≤ 127) := by rw [e1, hz]; apply Bool.eq_iff_iff.2; simp; omega
        have C2 := Lib.hid (add_ok a n b w ha hn hb)
        have C3 := Lib.hid (add_ok b m c w (by omega) (by omega) (by omega))
        have C4 := Lib.hid (add_ok a (n + m) c w ha (by omega) hc)
        have C5 := Lib.hid (less_ok a c z true w ha (by omega) hx (by simp; omega))
        have C6 := Lib.hid (less_ok c a false true w (by omega) ha (by simp; omega) (by simp; omega))
        have hz' := hz.symm
        have tc : (c != c) = false := by simp
        clear hb hc e1 hx hz
        obtain ⟨n1, n2⟩ := hn
        obtain ⟨m1, m2⟩ := hm
        cases z <;>
        · go_enter Try.func5, Try.ntmps5
          go_wp2_with fail
          refine (fact_any _).mono ?_; rintro e w' ⟨rfl, rfl⟩
          go_wp2_with fail
          refine (C0.out).mono ?_; rintro e w' ⟨rfl, rfl⟩
          go_wp2_with fail
          refine (C1.out).mono ?_; rintro e w' ⟨rfl, rfl⟩
          go_wp2_with fail
          refine (C2.out).mono ?_; rintro e w' ⟨rfl, rfl⟩
          go_wp2_with fail
          refine (C3.out).mono ?_; rintro e w' ⟨rfl, rfl⟩
          go_wp2_with fail
          refine (C4.out).mono ?_; rintro e w' ⟨rfl, rfl⟩
          go_wp2_with fail
          refine (C5.out).mono ?_; rintro e w' ⟨rfl, rfl⟩
          go_wp2_with fail
          refine (C6.out).mono ?_; rintro e w' ⟨rfl, rfl⟩
          go_wp2
          go_ret
          exact ⟨rfl, rfl⟩
      · have C2 := Lib.hid (add_no a n w (.inl ha))
        have C3 := Lib.hid (in_no a 0 255 w ha)
        obtain ⟨n1, n2⟩ := hn
        clear ha hm
        go_enter Try.func5, Try.ntmps5
        go_wp2_with fail
        refine (fact_any _).mono ?_; rintro e w' ⟨rfl, rfl⟩
        go_wp2_with fail
        refine (C0.out).mono ?_; rintro e w' ⟨rfl, rfl⟩
        go_wp2_with fail
        refine (C1.out).mono ?_; rintro e w' ⟨rfl, rfl⟩
        go_wp2_with fail
        refine (C2.out).mono ?_; rintro e w' ⟨rfl, rfl⟩
        go_wp2_with fail
        refine (C3.out).mono ?_; rintro e w' ⟨rfl, rfl⟩
        go_wp2
        go_ret
        exact ⟨rfl, rfl⟩
    · have C1 := Lib.hid (in_no m 0 (127 - n) w hm)
      obtain ⟨n1, n2⟩ := hn
      clear hm
      go_enter Try.func5, Try.ntmps5
      go_wp2_with fail
      refine (fact_any _).mono ?_; rintro e w' ⟨rfl, rfl⟩
      go_wp2_with fail
      refine (C0.out).mono ?_; rintro e w' ⟨rfl, rfl⟩
      go_wp2_with fail
      refine (C1.out).mono ?_; rintro e w' ⟨rfl, rfl⟩
      go_wp2
      go_ret
      exact ⟨rfl, rfl⟩
  · have C0 := Lib.hid (in_no n 0 127 w hn)
    clear hn
    go_enter Try.func5, Try.ntmps5
    go_wp2_with fail
    refine (fact_any _).mono ?_; rintro e w' ⟨rfl, rfl⟩
    go_wp2_with fail
    refine (C0.out).mono ?_; rintro e w' ⟨rfl, rfl⟩
    go_wp2
    go_ret
    exact ⟨rfl, rfl⟩

theorem reads : Try.f5.params.toList.all (fun t => Try.prog.readableRec t && decide (t < Try.prog.types.size)) = true := by kernel_rfl

theorem contract (H : Type) (enc : TypeId × Value → H) (W : World) (base : Nat) (args : Array Value) (ds gs : List (DataW H)) (before : List MemPlace)
    (hval : ∀ (j : Nat) t v, Try.f5.params[j]? = some t → args[j]? = some v → Value.okWide Try.prog W .any base t v)
    (hW : DataW.Whole enc Try.prog Try.f5.params.toList Rows.serialOrderSpec.vars false W args.toList ds gs before) :
    Calls Try.prog 5 args W fun e W' => ∃ v, e = .returned v ∧ Rows.serialOrderSpec.post enc Try.prog Try.f5 false true false false W args v W' := by
  have hW' := hW
  obtain ⟨p, q, hA0, hV, rfl, hfz, hnd⟩ := hW
  have hA : DataW.TrodAll enc Try.prog W 0 (fun _ => true) true Try.f5.params.toList args.toList ds p := hA0
  have hlt := hA.lt
  rw [Try.params5] at hA hval
  obtain ⟨v0, vs0, d0, ds0, p0, q0, hargs, rfl, rfl, h0, r0⟩ := trodAll_cons hA
  obtain ⟨v1, vs1, d1, ds1, p1, q1, hvs1, rfl, rfl, h1, r1⟩ := trodAll_cons r0
  obtain ⟨v2, vs2, d2, ds2, p2, q2, hvs2, rfl, rfl, h2, r2⟩ := trodAll_cons r1
  obtain ⟨hvsn, rfl, rfl⟩ := trodAll_nil r2
  simp only [hvsn, hvs2, hvs1] at hargs
  obtain rfl : args = #[v0, v1, v2] := by cases args; simp_all
  obtain ⟨rfl, rfl⟩ := trodVars_none hV
  clear hA0
  obtain ⟨a0, rfl, rfl, rfl, w0⟩ := open_int Try.underlying3 (hval 0 3 v0 rfl rfl) h0
  have b0 := bounds_int w0
  obtain ⟨a1, rfl, rfl, rfl, w1⟩ := open_int Try.underlying3 (hval 1 3 v1 rfl rfl) h1
  have b1 := bounds_int w1
  obtain ⟨a2, rfl, rfl, rfl, w2⟩ := open_int Try.underlying3 (hval 2 3 v2 rfl rfl) h2
  have b2 := bounds_int w2
  exact law_post 4 laid reads rfl Try.underlying4 rfl hW' ⟨rfl, rfl, rfl⟩ ((walk a0 a1 a2 W).mono fun e w' h => ⟨h.1, h.2 ▸ brefl _⟩)

set_option maxRecDepth 100000 in
theorem lifted (os : Os) (started : os.Started) (H : Type) (enc : TypeId × Value → H) :
    ReturnsInHanded {} Try.checked os 5 .any (Rows.serialOrderSpec.pre6 enc Try.prog Try.f5 Rows.serialOrderRow.domain false) (Rows.serialOrderSpec.post enc Try.prog Try.f5 false true false false) := by
  refine returnsInHanded_of_change (C := Try.checked) own started (by kernel_rfl) Try.func5
    (ChangeSpec.witness6 (enc := enc) (C := Try.checked) false ⟨#[], #[.int .i64 0, .int .i64 0, .int .i64 0], []⟩ 8 (by kernel_rfl) (by kernel_rfl) (by kernel_rfl) (by kernel_rfl)) ?_
  intro W base args ds gs before hval hW _ _
  exact contract H enc W base args ds gs before hval hW

theorem proved : Rows.SerialOrderSaid :=
  OpenClaim.holds_of_wide 5 Try.f5 rfl rfl rfl rfl rfl rfl rfl ⟨rfl, rfl, rfl, rfl, rfl⟩ rfl rfl rfl rfl rfl (by kernel_rfl) Try.func5 (by kernel_rfl)
    (of_decide_eq_true (by kernel_rfl)) (by unfold Func.isWrapper; first | (rw [if_pos (by decide +kernel)]; kernel_rfl) | (rw [if_neg (by decide +kernel)]; exact ⟨rfl, rfl⟩))
    (fun os started H enc _ => lifted os started H enc)
end Go.Proofs.Ytdndcdgeljhgkaa.serialOrderP
