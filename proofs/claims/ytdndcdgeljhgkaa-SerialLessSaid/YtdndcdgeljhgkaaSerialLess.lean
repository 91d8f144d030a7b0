/- Of two different serial numbers exactly one follows the other, if the comparison is defined: the law returns true for every input. No condition. -/
import Derived.Test.YtdndcdgeljhgkaaSerial
namespace Go.Proofs.Ytdndcdgeljhgkaa.serialLessP
open Go.ChangeShapes Go.WideShapes Go.ChangeAt Go.RowKit
open Go.Proofs.Ytdndcdgeljhgkaa.Kit Go.Proofs.Ytdndcdgeljhgkaa.Serial
set_option linter.unusedVariables false

theorem walk_bad (a b n : Int) (w : World) (h : ¬ (0 ≤ a ∧ a ≤ 255) ∨ ¬ (0 ≤ b ∧ b ≤ 255)) : Calls Try.prog 3 #[.int .i64 a, .int .i64 b, .int .i64 n] w fun e w' => e = .returned (.bool true) ∧ w = w' := by
  have C1 := Lib.hid (less_no a b w h)
  have C2 := Lib.hid (less_no b a w h.symm)
  by_cases ha : 0 ≤ a ∧ a ≤ 255
  · have hb : ¬ (0 ≤ b ∧ b ≤ 255) := h.resolve_left (fun x => x ha)
    have C3 := Lib.hid (in_yes a 0 255 w ha)
    have C4 := Lib.hid (in_no b 0 255 w hb)
    clear ha hb h
    go_enter Try.func3, Try.ntmps3
    go_wp2_with fail
    refine (fact_any _).mono ?_; rintro e w' ⟨rfl, rfl⟩
    go_wp2_with fail
    refine (C1.out).mono ?_; rintro e w' ⟨rfl, rfl⟩
    go_wp2_with fail
    refine (C2.out).mono ?_; rintro e w' ⟨rfl, rfl⟩
    go_wp2_with fail
    refine (C3.out).mono ?_; rintro e w' ⟨rfl, rfl⟩
    go_wp2_with fail
    refine (C4.out).mono ?_; rintro e w' ⟨rfl, rfl⟩
    go_wp2
    go_ret
    exact ⟨rfl, rfl⟩
  · have C3 := Lib.hid (in_no a 0 255 w ha)
    clear ha h
    go_enter Try.func3, Try.ntmps3
    go_wp2_with fail
    refine (fact_any _).mono ?_; rintro e w' ⟨rfl, rfl⟩
    go_wp2_with fail
    refine (C1.out).mono ?_; rintro e w' ⟨rfl, rfl⟩
    go_wp2_with fail
    refine (C2.out).mono ?_; rintro e w' ⟨rfl, rfl⟩
    go_wp2_with fail
    refine (C3.out).mono ?_; rintro e w' ⟨rfl, rfl⟩
    go_wp2
    go_ret
    exact ⟨rfl, rfl⟩

theorem fit (a n c : Int) (z : Bool) (ha : 0 ≤ a ∧ a ≤ 255) (hn : 0 ≤ n ∧ n ≤ 127) (hc : c = (a + n) % 256) (hz : z = decide (0 < n)) :
    (0 ≤ c ∧ c ≤ 255) ∧ z = decide (1 ≤ (c - a) % 256 ∧ (c - a) % 256 ≤ 127) ∧ true = decide ((c - a) % 256 ≠ 128) := by
  have e : (c - a) % 256 = n := by omega
  refine ⟨by omega, ?_, ?_⟩
  · rw [e, hz]; apply Bool.eq_iff_iff.2; simp; omega
  · rw [e]; simp; omega

theorem walk_ok (a b n : Int) (x t y : Bool) (w : World) (ha : 0 ≤ a ∧ a ≤ 255) (hb : 0 ≤ b ∧ b ≤ 255)
    (hx : x = decide (1 ≤ (b - a) % 256 ∧ (b - a) % 256 ≤ 127)) (ht : t = decide ((b - a) % 256 ≠ 128))
    (hy : y = decide (1 ≤ (a - b) % 256 ∧ (a - b) % 256 ≤ 127)) (hu : t = decide ((a - b) % 256 ≠ 128)) (p : Bool) (q : (a == b) = p) (q' : (a != b) = !p)
    (h : (x, t, y, p) = (true, true, false, false) ∨ (x, t, y, p) = (false, true, true, false) ∨ (x, t, y, p) = (false, false, false, false) ∨ (x, t, y, p) = (false, true, false, true)) :
    Calls Try.prog 3 #[.int .i64 a, .int .i64 b, .int .i64 n] w fun e w' => e = .returned (.bool true) ∧ w = w' := by
  have C1 := Lib.hid (less_ok a b x t w ha hb hx ht)
  have C2 := Lib.hid (less_ok b a y t w hb ha hy hu)
  clear hx ht hy hu
  by_cases hn : 0 ≤ n ∧ n ≤ 127
  · obtain ⟨c, hc⟩ : ∃ c, c = (a + n) % 256 := ⟨_, rfl⟩
    obtain ⟨z, hz⟩ : ∃ z, z = decide (0 < n) := ⟨_, rfl⟩
    have C3 := Lib.hid (add_ok a n c w ha hn hc)
    obtain ⟨f1, f2, f3⟩ := fit a n c z ha hn hc hz
    have C4 := Lib.hid (less_ok a c z true w ha f1 f2 f3)
    clear f1 f2 f3 hc ha hb hn
    have hz' := hz.symm
    clear hz
    cases z <;>
    (rcases h with h | h | h | h <;>
    · simp only [Prod.mk.injEq] at h
      obtain ⟨rfl, rfl, rfl, rfl⟩ := h
      simp only [Bool.not_true, Bool.not_false] at q'
      go_enter Try.func3, Try.ntmps3
      go_wp2_with fail
      refine (fact_any _).mono ?_; rintro e w' ⟨rfl, rfl⟩
      go_wp2_with fail
      refine (C1.out).mono ?_; rintro e w' ⟨rfl, rfl⟩
      go_wp2_with fail
      refine (C2.out).mono ?_; rintro e w' ⟨rfl, rfl⟩
      go_wp2_with fail
      refine (C3.out).mono ?_; rintro e w' ⟨rfl, rfl⟩
      go_wp2_with fail
      refine (C4.out).mono ?_; rintro e w' ⟨rfl, rfl⟩
      go_wp2
      go_ret
      exact ⟨rfl, rfl⟩)
  · have C3 := Lib.hid (add_no a n w (.inr hn))
    have C4 := Lib.hid (in_no n 0 127 w hn)
    clear ha hb hn
    rcases h with h | h | h | h <;>
    · simp only [Prod.mk.injEq] at h
      obtain ⟨rfl, rfl, rfl, rfl⟩ := h
      simp only [Bool.not_true, Bool.not_false] at q'
      go_enter Try.func3, Try.ntmps3
      go_wp2_with fail
      refine (fact_any _).mono ?_; rintro e w' ⟨rfl, rfl⟩
      go_wp2_with fail
      refine (C1.out).mono ?_; rintro e w' ⟨rfl, rfl⟩
      go_wp2_with fail
      refine (C2.out).mono ?_; rintro e w' ⟨rfl, rfl⟩
      go_wp2_with fail
      refine (C3.out).mono ?_; rintro e w' ⟨rfl, rfl⟩
      go_wp2_with fail
      refine (C4.out).mono ?_; rintro e w' ⟨rfl, rfl⟩
      go_wp2
      go_ret
      exact ⟨rfl, rfl⟩

theorem walk (a b n : Int) (w : World) : Calls Try.prog 3 #[.int .i64 a, .int .i64 b, .int .i64 n] w fun e w' => e = .returned (.bool true) ∧ w = w' := by
  by_cases h : (0 ≤ a ∧ a ≤ 255) ∧ (0 ≤ b ∧ b ≤ 255)
  · obtain ⟨ha, hb⟩ := h
    have q' : ∀ p, (a == b) = p → (a != b) = !p := fun p h => by subst h; rfl
    by_cases h1 : a = b
    · refine walk_ok a b n false true false w ha hb (by simp; omega) (by simp; omega) (by simp; omega) (by simp; omega) true (by simp; omega) (q' _ (by simp; omega)) (by simp)
    · by_cases h2 : (b - a) % 256 = 128
      · refine walk_ok a b n false false false w ha hb (by simp; omega) (by simp; omega) (by simp; omega) (by simp; omega) false (by simp; omega) (q' _ (by simp; omega)) (by simp)
      · by_cases h3 : (b - a) % 256 < 128
        · refine walk_ok a b n true true false w ha hb (by simp; omega) (by simp; omega) (by simp; omega) (by simp; omega) false (by simp; omega) (q' _ (by simp; omega)) (by simp)
        · refine walk_ok a b n false true true w ha hb (by simp; omega) (by simp; omega) (by simp; omega) (by simp; omega) false (by simp; omega) (q' _ (by simp; omega)) (by simp)
  · exact walk_bad a b n w (by omega)

theorem reads : Try.f3.params.toList.all (fun t => Try.prog.readableRec t && decide (t < Try.prog.types.size)) = true := by kernel_rfl

theorem contract (H : Type) (enc : TypeId × Value → H) (W : World) (base : Nat) (args : Array Value) (ds gs : List (DataW H)) (before : List MemPlace)
    (hval : ∀ (j : Nat) t v, Try.f3.params[j]? = some t → args[j]? = some v → Value.okWide Try.prog W .any base t v)
    (hW : DataW.Whole enc Try.prog Try.f3.params.toList Rows.serialLessSpec.vars false W args.toList ds gs before) :
    Calls Try.prog 3 args W fun e W' => ∃ v, e = .returned v ∧ Rows.serialLessSpec.post enc Try.prog Try.f3 false true false false W args v W' := by
  have hW' := hW
  obtain ⟨p, q, hA0, hV, rfl, hfz, hnd⟩ := hW
  have hA : DataW.TrodAll enc Try.prog W 0 (fun _ => true) true Try.f3.params.toList args.toList ds p := hA0
  have hlt := hA.lt
  rw [Try.params3] at hA hval
  obtain ⟨v0, vs0, d0, ds0, p0, q0, hargs, rfl, rfl, h0, r0⟩ := trodAll_cons hA
  obtain ⟨v1, vs1, d1, ds1, p1, q1, hvs1, rfl, rfl, h1, r1⟩ := trodAll_cons r0
  obtain ⟨v2, vs2, d2, ds2, p2, q2, hvs2, rfl, rfl, h2, r2⟩ := trodAll_cons r1
  obtain ⟨hvsn, rfl, rfl⟩ := trodAll_nil r2
  simp only [hvsn, hvs2, hvs1] at hargs
  obtain rfl : args = #[v0, v1, v2] := by cases args; simp_all
  obtain ⟨rfl, rfl⟩ := trodVars_none hV
  clear hA0
  obtain ⟨a0, rfl, rfl, rfl, w0⟩ := open_int Try.underlying3 (hval 0 3 v0 rfl rfl) h0
  have b0 := bounds_int w0
  obtain ⟨a1, rfl, rfl, rfl, w1⟩ := open_int Try.underlying3 (hval 1 3 v1 rfl rfl) h1
  have b1 := bounds_int w1
  obtain ⟨a2, rfl, rfl, rfl, w2⟩ := open_int Try.underlying3 (hval 2 3 v2 rfl rfl) h2
  have b2 := bounds_int w2
  exact law_post 4 laid reads rfl Try.underlying4 rfl hW' ⟨rfl, rfl, rfl⟩ ((walk a0 a1 a2 W).mono fun e w' h => ⟨h.1, h.2 ▸ brefl _⟩)

set_option maxRecDepth 100000 in
theorem lifted (os : Os) (started : os.Started) (H : Type) (enc : TypeId × Value → H) :
    ReturnsInHanded {} Try.checked os 3 .any (Rows.serialLessSpec.pre6 enc Try.prog Try.f3 Rows.serialLessRow.domain false) (Rows.serialLessSpec.post enc Try.prog Try.f3 false true false false) := by
  refine returnsInHanded_of_change (C := Try.checked) own started (by kernel_rfl) Try.func3
    (ChangeSpec.witness6 (enc := enc) (C := Try.checked) false ⟨#[], #[.int .i64 0, .int .i64 0, .int .i64 0], []⟩ 8 (by kernel_rfl) (by kernel_rfl) (by kernel_rfl) (by kernel_rfl)) ?_
  intro W base args ds gs before hval hW _ _
  exact contract H enc W base args ds gs before hval hW

theorem proved : Rows.SerialLessSaid :=
  OpenClaim.holds_of_wide 3 Try.f3 rfl rfl rfl rfl rfl rfl rfl ⟨rfl, rfl, rfl, rfl, rfl⟩ rfl rfl rfl rfl rfl (by kernel_rfl) Try.func3 (by kernel_rfl)
    (of_decide_eq_true (by kernel_rfl)) (by unfold Func.isWrapper; first | (rw [if_pos (by decide +kernel)]; kernel_rfl) | (rw [if_neg (by decide +kernel)]; exact ⟨rfl, rfl⟩))
    (fun os started H enc _ => lifted os started H enc)
end Go.Proofs.Ytdndcdgeljhgkaa.serialLessP
