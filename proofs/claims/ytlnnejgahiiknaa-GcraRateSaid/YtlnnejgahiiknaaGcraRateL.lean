/- No more may come than one each so many ticks, and what the slack lets: the law returns true for every input. No condition. -/
import Derived.Test.YtlnnejgahiiknaaGcraFact
namespace Go.Proofs.Ytlnnejgahiiknaa.GcraRateL
open Go.ChangeShapes Go.WideShapes Go.ChangeAt Go.RowKit Go.Proofs.Ytlnnejgahiiknaa.Kit Go.Proofs.Ytlnnejgahiiknaa.App Go.Proofs.Ytlnnejgahiiknaa.Err Go.Proofs.Ytlnnejgahiiknaa.GcraMath Go.Proofs.Ytlnnejgahiiknaa.Gcra Go.Proofs.Ytlnnejgahiiknaa.Truth
set_option linter.unusedVariables false
set_option maxRecDepth 20000
set_option maxHeartbeats 1000000

abbrev Law (s x : Int) (p : Option Addr) (n cap : Nat) (w : World) : Prop := Calls Try.prog 4 #[.int .i64 s, .int .i64 x, .slice p n cap] w fun e w' => e = .returned (.bool true) ∧ Below w.heap.size w w'
theorem law_bad (s x : Int) (p : Option Addr) (n cap : Nat) (l : List Int) (w : World) (hn : n = l.length) (hi : Ints w p cap l) (c : Int) (hc : code s x l = c) (h0 : c ≠ 0) : Law s x p n cap w := by
  have FA := Lib.hid (fact_any w)
  have LN := Lib.hid (fun W (hb : Below w.heap.size w W) => leak_no s x p n cap l W hn (hi.below hb) c hc h0)
  have hlen := hi.len_le
  rw [← hn] at hlen
  clear hi hn hc h0
  unfold Law
  go_enter Try.func4, Try.ntmps4
  go_wp2_with fail
  refine FA.out.mono ?_; rintro e w1 ⟨rfl, hb1⟩
  go_wp2_with fail
  refine (LN.out _ hb1).mono ?_; rintro e w2 ⟨rfl, hb2⟩
  go_wp2_with fail
  go_ret
  exact ⟨rfl, bcall hb1 hb2⟩
set_option maxHeartbeats 4000000 in
theorem law_good (s x : Int) (p : Option Addr) (n cap : Nat) (l : List Int) (w : World) (hn : n = l.length) (hi : Ints w p cap l) (hc : code s x l = 0) : Law s x p n cap w := by
  have FA := Lib.hid (fact_any w)
  have LY := Lib.hid (fun W (hb : Below w.heap.size w W) => leak_yes s x p n cap l W hn (hi.below hb) hc)
  have hlen := hi.len_le
  rw [← hn] at hlen
  obtain ⟨hr, hl200, hbad⟩ := code_zero hc
  rw [← hn] at hl200
  have HI := Lib.hid hi
  have HN := Lib.hid hn
  have HR := Lib.hid hr
  have HD := Lib.hid hbad
  obtain ⟨⟨s1, s2⟩, x1, x2⟩ := hr
  clear hi hn hc hbad
  unfold Law
  go_enter Try.func4, Try.ntmps4
  go_wp2_with fail
  refine FA.out.mono ?_; rintro e w1 ⟨rfl, hb1⟩
  clear FA
  go_wp2_with fail
  refine (LY.out _ hb1).mono ?_; rintro e w2 ⟨rfl, ho, hb2⟩
  have HB2 := Lib.hid (bcall hb1 hb2)
  have HT := Lib.hid ho.tru.2
  have HI2 := Lib.hid (HI.out.below HB2.out)
  clear HI ho hb1 hb2 LY
  generalize w1.heap.size = b at HT ⊢
  have HT1 := Lib.hid (fun W (hb : Below w2.heap.size w2 W) (k : Nat) (hk : k < n) => by
    have h1 := (HT.out.below hb).one k _ (mays_get (by rw [← HN.out]; exact hk))
    rw [Nat.zero_add] at h1
    exact h1)
  have t9 : ((n : Int) != (n : Int)) = false := by simp
  go_wp2_with fail
  go_loopw [10] (fun iv wr => ∃ i : Nat, i ≤ n ∧ iv = .int .i64 (i : Int) ∧ Hid (Below w2.heap.size w2 wr)) (fun i _ => n - (intOf i).toNat)
  case atStart => exact ⟨0, Nat.zero_le _, rfl, Lib.hid (brefl _)⟩
  case round =>
    obtain ⟨i, hi, rfl, HB⟩ := hrel
    by_cases hin : i < n
    · go_wp2_with fail
      generalize wr = w3 at HB ⊢
      go_loopw [11, 12] (fun mv kv wr => ∃ m k : Nat, mv = .int .i64 (m : Int) ∧ kv = .int .i64 (k : Int) ∧ i ≤ k ∧ k ≤ n ∧ m ≤ k ∧ Hid (Rate s x l i k m) ∧ Hid (Below w2.heap.size w2 wr)) (fun _ k _ => n - (intOf k).toNat)
      case atStart => exact ⟨0, i, rfl, rfl, Nat.le_refl _, hi, Nat.zero_le _, Lib.hid rate_zero, HB⟩
      case round =>
        obtain ⟨m, k, rfl, rfl, hik, hk, hmk, HRT, HB4⟩ := hrel
        clear HB
        by_cases hkn : k < n
        · have cm := HT1.out wr HB4.out k hkn
          obtain ⟨B, hB⟩ : ∃ B, mayAt s x l k = B := ⟨_, rfl⟩
          rw [hB] at cm
          cases B with
          | false =>
            have HRT2 := Lib.hid (rate_no HRT.out hik hB)
            clear hB
            go_wp2_with fail
            go_roundw
            case rel => exact ⟨m, k + 1, rfl, by first | rfl | go_num, by omega, by omega, by omega, HRT2, HB4⟩
            case measure => simp [intOf]; omega
          | true =>
            have HRT2 := Lib.hid (rate_yes HRT.out hik hB)
            have ci := HT1.out wr HB4.out i hin
            obtain ⟨b1, off, rfl, hbw, hcc⟩ := HI2.out.2.2.2 (by have := HN.out; omega)
            have ck := (HB4.out.cell (p := ⟨b1, off + k, none⟩) hbw).trans (hcc k (by have := HN.out; omega))
            have cti := (HB4.out.cell (p := ⟨b1, off + i, none⟩) hbw).trans (hcc i (by have := HN.out; omega))
            have hfk := fine_of HD.out (k := k) (by have := HN.out; omega)
            have hfi := fine_of HD.out (k := i) (by have := HN.out; omega)
            obtain ⟨⟨k1, k2⟩, _⟩ := hfk
            obtain ⟨⟨i1, i2⟩, _⟩ := hfi
            have hpb : 0 ≤ (m : Int) * s ∧ (m : Int) * s ≤ 200 * 20 := ⟨Int.mul_nonneg (by omega) (by omega), Int.mul_le_mul (by omega) s2 (by omega) (by omega)⟩
            obtain ⟨p1, p2⟩ := hpb
            obtain ⟨A, hA⟩ : ∃ A, mayAt s x l i = A := ⟨_, rfl⟩
            rw [hA] at ci
            clear hcc hbw
            cases A with
            | false =>
              clear hA hB
              unfold tm at k1 k2 i1 i2
              generalize l[k]?.getD 0 = tk at ck k1 k2
              generalize l[i]?.getD 0 = ti at cti i1 i2
              go_wp2_with fail
              go_quiet (fail)
              go_wp2_with fail
              go_roundw
              case rel => exact ⟨m + 1, k + 1, by first | rfl | go_num, by first | rfl | go_num, by omega, by omega, by omega, HRT2, Lib.hid (bdrewN HB4.out nq)⟩
              case measure => simp [intOf]; omega
            | true =>
              have hlaw := rate_law HRT.out x1 hA hB
              clear hA hB
              unfold tm at k1 k2 i1 i2 hlaw
              generalize l[k]?.getD 0 = tk at ck k1 k2 hlaw
              generalize l[i]?.getD 0 = ti at cti i1 i2 hlaw
              have t5 : decide (tk < ti + (m : Int) * s - x) = false := decide_eq_false (by omega)
              clear hlaw
              go_wp2_with fail
              go_quiet (fail)
              go_wp2_with fail
              go_roundw
              case rel => exact ⟨m + 1, k + 1, by first | rfl | go_num, by first | rfl | go_num, by omega, by omega, by omega, HRT2, Lib.hid (bdrewN HB4.out nq)⟩
              case measure => simp [intOf]; omega
        · obtain rfl : k = n := by omega
          go_wp2_with fail
          go_roundw
          case rel => exact ⟨i + 1, by omega, by first | rfl | go_num, HB4⟩
          case measure => simp [intOf]; omega
    · obtain rfl : i = n := by omega
      go_wp2_with fail
      go_ret
      exact ⟨rfl, bcall HB2.out HB.out⟩

theorem reads : Try.f4.params.toList.all (fun t => Try.prog.readableRec t && decide (t < Try.prog.types.size)) = true := by kernel_rfl

theorem contract (H : Type) (enc : TypeId × Value → H) (W : World) (base : Nat) (args : Array Value) (ds gs : List (DataW H)) (before : List MemPlace)
    (hval : ∀ (j : Nat) t v, Try.f4.params[j]? = some t → args[j]? = some v → Value.okWide Try.prog W .any base t v)
    (hW : DataW.Whole enc Try.prog Try.f4.params.toList Rows.gcraRateSpec.vars false W args.toList ds gs before) :
    Calls Try.prog 4 args W fun e W' => ∃ v, e = .returned v ∧ Rows.gcraRateSpec.post enc Try.prog Try.f4 false true false false W args v W' := by
  have hW' := hW
  obtain ⟨p, q, hA0, hV, rfl, hfz, hnd⟩ := hW
  have hA : DataW.TrodAll enc Try.prog W 0 (fun _ => true) true Try.f4.params.toList args.toList ds p := hA0
  have hlt := hA.lt
  rw [Try.params4] at hA hval
  obtain ⟨v0, vs0, d0, ds0, p0, q0, hargs, rfl, rfl, h0, r0⟩ := trodAll_cons hA
  obtain ⟨v1, vs1, d1, ds1, p1, q1, hvs1, rfl, rfl, h1, r1⟩ := trodAll_cons r0
  obtain ⟨v2, vs2, d2, ds2, p2, q2, hvs2, rfl, rfl, h2, r2⟩ := trodAll_cons r1
  obtain ⟨hvsn, rfl, rfl⟩ := trodAll_nil r2
  simp only [hvsn, hvs2, hvs1] at hargs
  obtain rfl : args = #[v0, v1, v2] := by cases args; simp_all
  obtain ⟨rfl, rfl⟩ := trodVars_none hV
  clear hA0
  obtain ⟨a0, rfl, rfl, rfl, w0⟩ := open_int Try.underlying3 (hval 0 3 v0 rfl rfl) h0
  have b0 := bounds_int w0
  obtain ⟨a1, rfl, rfl, rfl, w1⟩ := open_int Try.underlying3 (hval 1 3 v1 rfl rfl) h1
  have b1 := bounds_int w1
  obtain ⟨p2a, cap2, l2, rfl, i2⟩ := open_intsl Try.underlying22 Try.underlying3 (by kernel_rfl) (hval 2 22 v2 rfl rfl) h2 (fun x hx => hlt x (by simp [hx]))
  exact law_post 4 laid reads rfl Try.underlying4 rfl hW' ⟨rfl, rfl, rfl⟩ (by
    by_cases h : code a0 a1 l2 = 0
    · exact law_good a0 a1 p2a l2.length cap2 l2 W rfl i2 h
    · exact law_bad a0 a1 p2a l2.length cap2 l2 W rfl i2 _ rfl h)

set_option maxRecDepth 100000 in
theorem lifted (os : Os) (started : os.Started) (H : Type) (enc : TypeId × Value → H) :
    ReturnsInHanded {} Try.checked os 4 .any (Rows.gcraRateSpec.pre6 enc Try.prog Try.f4 Rows.gcraRateRow.domain false) (Rows.gcraRateSpec.post enc Try.prog Try.f4 false true false false) := by
  refine returnsInHanded_of_change (C := Try.checked) own started (by kernel_rfl) Try.func4
    (ChangeSpec.witness6 (enc := enc) (C := Try.checked) false ⟨#[], #[.int .i64 0, .int .i64 0, .slice none 0 0], []⟩ 8 (by kernel_rfl) (by kernel_rfl) (by kernel_rfl) (by kernel_rfl)) ?_
  intro W base args ds gs before hval hW _ _
  exact contract H enc W base args ds gs before hval hW

theorem proved : Rows.GcraRateSaid :=
  OpenClaim.holds_of_wide 4 Try.f4 rfl rfl rfl rfl rfl rfl rfl ⟨rfl, rfl, rfl, rfl, rfl⟩ rfl rfl rfl rfl rfl (by kernel_rfl) Try.func4 (by kernel_rfl)
    (of_decide_eq_true (by kernel_rfl)) (by unfold Func.isWrapper; first | (rw [if_pos (by decide +kernel)]; kernel_rfl) | (rw [if_neg (by decide +kernel)]; exact ⟨rfl, rfl⟩))
    (fun os started H enc _ => lifted os started H enc)
end Go.Proofs.Ytlnnejgahiiknaa.GcraRateL
