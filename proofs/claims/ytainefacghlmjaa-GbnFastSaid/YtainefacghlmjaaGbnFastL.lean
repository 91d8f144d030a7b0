/- Where nothing is lost as many rounds as elements suffice: the law returns true for every input. No condition. -/
import Derived.Test.YtainefacghlmjaaGbnLaw
namespace Go.Proofs.Ytainefacghlmjaa.gbnFastP
open Go.ChangeShapes Go.WideShapes Go.ChangeAt Go.RowKit
open Go.Proofs.Ytainefacghlmjaa.Kit Go.Proofs.Ytainefacghlmjaa.App Go.Proofs.Ytainefacghlmjaa.Cells Go.Proofs.Ytainefacghlmjaa.Fate Go.Proofs.Ytainefacghlmjaa.Abp Go.Proofs.Ytainefacghlmjaa.GbnMath Go.Proofs.Ytainefacghlmjaa.Gbn
set_option linter.unusedVariables false
set_option maxRecDepth 20000

abbrev Law (p : Option Addr) (cap : Nat) (l : List Int) (W R M : Int) (w : World) : Prop := Calls Try.prog 5 #[.slice p l.length cap, .int .i64 W, .int .i64 R, .int .i64 M] w fun e w' => e = .returned (.bool true) ∧ Below w.heap.size w w'
theorem ty : Ty lay 23 35 2 := ⟨Try.underlying23, by
  have h : (Try.prog.info? 35).map (fun i => (i.zero, i.size, i.bytes)) = some (some (.agg #[.bool false, .bool false]), 2, 2) := by kernel_rfl
  obtain ⟨i, hi, hz⟩ := Option.map_eq_some_iff.1 h
  simp only [Prod.mk.injEq] at hz
  exact ⟨i, _, hi, hz.1, hz.2.1, hz.2.2, rfl⟩, by decide⟩
theorem in_yes (n a b : Int) (w : World) (h : a ≤ n ∧ n ≤ b) : Calls Try.prog 10 #[.int .i64 n, .int .i64 a, .int .i64 b] w fun e w' => e = .returned (.bool true) ∧ w = w' := by
  obtain ⟨h1, h2⟩ := h
  have t1 : decide (a ≤ n) = true := decide_eq_true h1
  have t2 : decide (n ≤ b) = true := decide_eq_true h2
  go_enter Try.func10, Try.ntmps10
  go_wp2
  go_ret
  exact ⟨rfl, rfl⟩
theorem in_no (n a b : Int) (w : World) (h : ¬ (a ≤ n ∧ n ≤ b)) : Calls Try.prog 10 #[.int .i64 n, .int .i64 a, .int .i64 b] w fun e w' => e = .returned (.bool false) ∧ w = w' := by
  by_cases h1 : a ≤ n
  · have h2 : ¬ n ≤ b := fun h2 => h ⟨h1, h2⟩
    clear h
    have t1 : decide (a ≤ n) = true := decide_eq_true h1
    have t2 : decide (n ≤ b) = false := decide_eq_false h2
    go_enter Try.func10, Try.ntmps10
    go_wp2
    go_ret
    exact ⟨rfl, rfl⟩
  · clear h
    have t1 : decide (a ≤ n) = false := decide_eq_false h1
    go_enter Try.func10, Try.ntmps10
    go_wp2
    go_ret
    exact ⟨rfl, rfl⟩
set_option maxHeartbeats 1000000 in
theorem law_no (p : Option Addr) (cap : Nat) (l : List Int) (W R M : Int) (w : World) (h : ¬ (0 ≤ M ∧ M ≤ 99)) : Law p cap l W R M w := by
  have FA := Lib.hid (fact_any w)
  have IN := Lib.hid (fun w' => in_no M 0 99 w' h)
  clear h
  unfold Law
  go_enter Try.func5, Try.ntmps5
  go_wp2_with fail
  refine FA.out.mono ?_; rintro e w1 ⟨rfl, hb1⟩
  go_wp2_with fail
  refine (IN.out _).mono ?_; rintro e w2 ⟨rfl, rfl⟩
  go_wp2_with fail
  go_ret
  exact ⟨rfl, hb1⟩
set_option maxHeartbeats 1000000 in
theorem law_wide (p : Option Addr) (cap : Nat) (l : List Int) (W R M : Int) (w : World) (h : 0 ≤ M ∧ M ≤ 99) (hWR : R ≤ W) : Law p cap l W R M w := by
  have FA := Lib.hid (fact_any w)
  have IN := Lib.hid (fun w' => in_yes M 0 99 w' h)
  have t1 : decide (W ≥ R) = true := decide_eq_true hWR
  clear h
  unfold Law
  go_enter Try.func5, Try.ntmps5
  go_wp2_with fail
  refine FA.out.mono ?_; rintro e w1 ⟨rfl, hb1⟩
  go_wp2_with fail
  refine (IN.out _).mono ?_; rintro e w2 ⟨rfl, rfl⟩
  go_wp2_with fail
  go_ret
  exact ⟨rfl, hb1⟩
set_option maxHeartbeats 4000000 in
theorem law_good (p : Option Addr) (cap : Nat) (l : List Int) (W R M : Int) (w : World) (hi : Ints w p cap l) (h : 0 ≤ M ∧ M ≤ 99) (hWR : ¬ R ≤ W) : Law p cap l W R M w := by
  have FA := Lib.hid (fact_any w)
  have IN := Lib.hid (fun w' => in_yes M 0 99 w' h)
  have t1 : decide (W ≥ R) = false := decide_eq_false hWR
  have HWR := Lib.hid hWR
  unfold Law
  obtain ⟨n, hn⟩ : ∃ n, n = l.length := ⟨_, rfl⟩
  rw [← hn]
  have HN := Lib.hid hn
  have HI := Lib.hid hi
  obtain ⟨S, hS⟩ : ∃ S, wrap64 ((n : Int) + M) = S := ⟨_, rfl⟩
  have HS : Hid (n ≤ 20 → (n : Int) ≤ S) := Lib.hid (fun h20 => by rw [← hS]; unfold wrap64; omega)
  clear hi hn hWR h
  go_enter Try.func5, Try.ntmps5
  go_wp2_with fail
  refine FA.out.mono ?_; rintro e w1 ⟨rfl, hb1⟩
  go_wp2_with fail
  refine (IN.out _).mono ?_; rintro e w2 ⟨rfl, rfl⟩
  clear FA IN
  go_wp2_with fail
  go_loopw [10, 11] (fun fv iv wr => ∃ i : Nat, i ≤ 200 ∧ iv = .int .i64 i ∧ OC lay 35 wr w.heap.size fv (List.replicate i ⟨false, false⟩) ∧ Below w.heap.size w wr) (fun _ iv _ => 200 - (intOf iv).toNat)
  case atStart => exact ⟨0, by omega, rfl, OC.nil _ _ _ _, hb1⟩
  case round =>
    obtain ⟨i, hi200, rfl, hown, hB⟩ := hrel
    have hBs := hB.size
    by_cases hlt : (i : Int) < S
    · have g1 : decide ((i : Int) < S) = true := decide_eq_true hlt
      by_cases h2 : i < 200
      · have HG := Lib.hid (show List.replicate i (⟨false, false⟩ : Fat) ++ [⟨false, false⟩] = List.replicate (i + 1) ⟨false, false⟩ from List.replicate_succ'.symm)
        have hgl : (List.replicate i (⟨false, false⟩ : Fat)).length ≤ 200 := by rw [List.length_replicate]; exact hi200
        obtain ⟨g, hg⟩ : ∃ g, List.replicate i (⟨false, false⟩ : Fat) = g := ⟨_, rfl⟩
        rw [hg] at HG hgl hown
        clear hg
        go_wp2_with (at_builtin
                     refine wp_appC ty rfl (.tmp 38) (.tmp 40) rfl w.heap.size _ g (some ⟨wr.heap.size, 0, none⟩) 1 1 [⟨false, false⟩] rfl (hown.alloc _) rfl rfl (CI.one lay wr _ _) (by rw [List.length_singleton]; omega) (Nat.le_trans hBs (by simp)) ?_
                     intro v1 wa hown1 hg1 hat1
                     have hb1 : Below w.heap.size w wa := below_oneC hB hBs _ hown hg1
                     clear hat1 hg1)
        go_roundw
        case rel => exact ⟨i + 1, by omega, by first | rfl | go_num, by rw [← HG.out]; exact hown1, hb1⟩
        case measure => simp [intOf]; omega
      · have g2 : decide ((i : Int) < 200) = false := decide_eq_false (by omega)
        have HX : Hid (n ≤ 20 → n ≤ i) := Lib.hid (fun h20 => by omega)
        obtain ⟨fp, fc, rfl, hci⟩ := hown.form
        rw [List.length_replicate] at hown ⊢
        have HC := Lib.hid hci
        clear hci
        by_cases hbad : badG l W R i ≠ 0
        · have RB := Lib.hid (fun q cq w' (hb : Below w.heap.size w w') => run_bad p q cap cq n i l W R w' HN.out (HI.out.below hb) (by omega) (badG l W R i) rfl hbad)
          rw [er_ne hbad] at RB
          clear hbad hown
          go_wp2_with fail
          refine (RB.out _ _ _ hB).mono ?_; rintro e w2 ⟨rfl, rfl⟩
          go_wp2_with fail
          go_ret
          exact ⟨rfl, hB⟩
        · have hbad : badG l W R i = 0 := Decidable.not_not.1 hbad
          obtain ⟨hb0, h1, h2, h3, h4⟩ := (badG_zero l W R i).1 hbad
          obtain ⟨hl20, _, _⟩ := (bad_zero l i).1 hb0
          have HWR2 := HWR.out
          obtain ⟨W', rfl⟩ : ∃ k : Nat, W = k := ⟨W.toNat, by omega⟩
          obtain ⟨R', rfl⟩ : ∃ k : Nat, R = k := ⟨R.toNat, by omega⟩
          have hrun : GbnMath.run l W' R' (List.replicate i ⟨false, false⟩) 0 0 [] = (n, l) := by
            have h := run_fast l W' R' (by omega) (by omega) (List.replicate i ⟨false, false⟩) 0 (fun f hf => List.eq_of_mem_replicate hf) (Nat.zero_le _) (by rw [List.length_replicate]; have := HX.out (by rw [HN.out]; exact hl20); rw [← HN.out]; omega)
            rw [List.take_zero, ← HN.out] at h
            exact h
          have RG := Lib.hid (fun w' (hb : Below wr.heap.size wr w') => run_good p fp cap fc n i W' R' l (List.replicate i ⟨false, false⟩) w' HN.out (by rw [List.length_replicate]) (HI.out.below (bcall hB hb)) (HC.out.below hb) hbad n l hrun)
          have HB3 := Lib.hid hB
          clear hbad hb0 h1 h2 h3 h4 hl20 HWR2 hrun hown
          go_wp2_with fail
          refine (RG.out _ (brefl _)).mono ?_; rintro e w2 ⟨v, rfl, ho, hb2⟩
          have hB2 := bcall HB3.out hb2
          obtain ⟨vp, vc, rfl, hvi⟩ := ho.form
          rw [← HN.out]
          have EQ := Lib.hid (ints_any vp p vc cap n n l l w2 HN.out HN.out hvi (HI.out.below hB2) true (by simp))
          clear ho hb2 hvi RG
          go_wp2_with fail
          refine EQ.out.mono ?_; rintro e w3 ⟨rfl, hb3⟩
          have hB4 := bcall hB2 hb3
          go_wp2_with fail
          go_ret
          exact ⟨rfl, hB4⟩
    · have g1 : decide ((i : Int) < S) = false := decide_eq_false hlt
      have HX : Hid (n ≤ 20 → n ≤ i) := Lib.hid (fun h20 => by have := HS.out h20; omega)
      obtain ⟨fp, fc, rfl, hci⟩ := hown.form
      rw [List.length_replicate] at hown ⊢
      have HC := Lib.hid hci
      clear hci
      by_cases hbad : badG l W R i ≠ 0
      · have RB := Lib.hid (fun q cq w' (hb : Below w.heap.size w w') => run_bad p q cap cq n i l W R w' HN.out (HI.out.below hb) (by omega) (badG l W R i) rfl hbad)
        rw [er_ne hbad] at RB
        clear hbad hown
        go_wp2_with fail
        refine (RB.out _ _ _ hB).mono ?_; rintro e w2 ⟨rfl, rfl⟩
        go_wp2_with fail
        go_ret
        exact ⟨rfl, hB⟩
      · have hbad : badG l W R i = 0 := Decidable.not_not.1 hbad
        obtain ⟨hb0, h1, h2, h3, h4⟩ := (badG_zero l W R i).1 hbad
        obtain ⟨hl20, _, _⟩ := (bad_zero l i).1 hb0
        have HWR2 := HWR.out
        obtain ⟨W', rfl⟩ : ∃ k : Nat, W = k := ⟨W.toNat, by omega⟩
        obtain ⟨R', rfl⟩ : ∃ k : Nat, R = k := ⟨R.toNat, by omega⟩
        have hrun : GbnMath.run l W' R' (List.replicate i ⟨false, false⟩) 0 0 [] = (n, l) := by
          have h := run_fast l W' R' (by omega) (by omega) (List.replicate i ⟨false, false⟩) 0 (fun f hf => List.eq_of_mem_replicate hf) (Nat.zero_le _) (by rw [List.length_replicate]; have := HX.out (by rw [HN.out]; exact hl20); rw [← HN.out]; omega)
          rw [List.take_zero, ← HN.out] at h
          exact h
        have RG := Lib.hid (fun w' (hb : Below wr.heap.size wr w') => run_good p fp cap fc n i W' R' l (List.replicate i ⟨false, false⟩) w' HN.out (by rw [List.length_replicate]) (HI.out.below (bcall hB hb)) (HC.out.below hb) hbad n l hrun)
        have HB3 := Lib.hid hB
        clear hbad hb0 h1 h2 h3 h4 hl20 HWR2 hrun hown
        go_wp2_with fail
        refine (RG.out _ (brefl _)).mono ?_; rintro e w2 ⟨v, rfl, ho, hb2⟩
        have hB2 := bcall HB3.out hb2
        obtain ⟨vp, vc, rfl, hvi⟩ := ho.form
        rw [← HN.out]
        have EQ := Lib.hid (ints_any vp p vc cap n n l l w2 HN.out HN.out hvi (HI.out.below hB2) true (by simp))
        clear ho hb2 hvi RG
        go_wp2_with fail
        refine EQ.out.mono ?_; rintro e w3 ⟨rfl, hb3⟩
        have hB4 := bcall hB2 hb3
        go_wp2_with fail
        go_ret
        exact ⟨rfl, hB4⟩

theorem reads : Try.f5.params.toList.all (fun t => Try.prog.readableRec t && decide (t < Try.prog.types.size)) = true := by kernel_rfl

theorem contract (H : Type) (enc : TypeId × Value → H) (W : World) (base : Nat) (args : Array Value) (ds gs : List (DataW H)) (before : List MemPlace)
    (hval : ∀ (j : Nat) t v, Try.f5.params[j]? = some t → args[j]? = some v → Value.okWide Try.prog W .any base t v)
    (hW : DataW.Whole enc Try.prog Try.f5.params.toList Rows.gbnFastSpec.vars false W args.toList ds gs before) :
    Calls Try.prog 5 args W fun e W' => ∃ v, e = .returned v ∧ Rows.gbnFastSpec.post enc Try.prog Try.f5 false true false false W args v W' := by
  have hW' := hW
  obtain ⟨p, q, hA0, hV, rfl, hfz, hnd⟩ := hW
  have hA : DataW.TrodAll enc Try.prog W 0 (fun _ => true) true Try.f5.params.toList args.toList ds p := hA0
  have hlt := hA.lt
  rw [Try.params5] at hA hval
  obtain ⟨v0, vs0, d0, ds0, p0, q0, hargs, rfl, rfl, h0, r0⟩ := trodAll_cons hA
  obtain ⟨v1, vs1, d1, ds1, p1, q1, hvs1, rfl, rfl, h1, r1⟩ := trodAll_cons r0
  obtain ⟨v2, vs2, d2, ds2, p2, q2, hvs2, rfl, rfl, h2, r2⟩ := trodAll_cons r1
  obtain ⟨v3, vs3, d3, ds3, p3, q3, hvs3, rfl, rfl, h3, r3⟩ := trodAll_cons r2
  obtain ⟨hvsn, rfl, rfl⟩ := trodAll_nil r3
  simp only [hvsn, hvs3, hvs2, hvs1] at hargs
  obtain rfl : args = #[v0, v1, v2, v3] := by cases args; simp_all
  obtain ⟨rfl, rfl⟩ := trodVars_none hV
  clear hA0
  obtain ⟨p0a, cap0, l0, rfl, i0⟩ := open_intsl Try.underlying22 Try.underlying3 (by kernel_rfl) (hval 0 22 v0 rfl rfl) h0 (fun x hx => hlt x (by simp [hx]))
  obtain ⟨a1, rfl, rfl, rfl, w1⟩ := open_int Try.underlying3 (hval 1 3 v1 rfl rfl) h1
  have b1 := bounds_int w1
  obtain ⟨a2, rfl, rfl, rfl, w2⟩ := open_int Try.underlying3 (hval 2 3 v2 rfl rfl) h2
  have b2 := bounds_int w2
  obtain ⟨a3, rfl, rfl, rfl, w3⟩ := open_int Try.underlying3 (hval 3 3 v3 rfl rfl) h3
  have b3 := bounds_int w3
  exact law_post 4 laid reads rfl Try.underlying4 rfl hW' ⟨rfl, rfl, rfl⟩ (by
    by_cases h : 0 ≤ a3 ∧ a3 ≤ 99
    · by_cases hWR : a2 ≤ a1
      · exact law_wide p0a cap0 l0 a1 a2 a3 W h hWR
      · exact law_good p0a cap0 l0 a1 a2 a3 W i0 h hWR
    · exact law_no p0a cap0 l0 a1 a2 a3 W h)

set_option maxRecDepth 100000 in
theorem lifted (os : Os) (started : os.Started) (H : Type) (enc : TypeId × Value → H) :
    ReturnsInHanded {} Try.checked os 5 .any (Rows.gbnFastSpec.pre6 enc Try.prog Try.f5 Rows.gbnFastRow.domain false) (Rows.gbnFastSpec.post enc Try.prog Try.f5 false true false false) := by
  refine returnsInHanded_of_change (C := Try.checked) own started (by kernel_rfl) Try.func5
    (ChangeSpec.witness6 (enc := enc) (C := Try.checked) false ⟨#[], #[.slice none 0 0, .int .i64 0, .int .i64 0, .int .i64 0], []⟩ 8 (by kernel_rfl) (by kernel_rfl) (by kernel_rfl) (by kernel_rfl)) ?_
  intro W base args ds gs before hval hW _ _
  exact contract H enc W base args ds gs before hval hW

theorem proved : Rows.GbnFastSaid :=
  OpenClaim.holds_of_wide 5 Try.f5 rfl rfl rfl rfl rfl rfl rfl ⟨rfl, rfl, rfl, rfl, rfl⟩ rfl rfl rfl rfl rfl (by kernel_rfl) Try.func5 (by kernel_rfl)
    (of_decide_eq_true (by kernel_rfl)) (by unfold Func.isWrapper; first | (rw [if_pos (by decide +kernel)]; kernel_rfl) | (rw [if_neg (by decide +kernel)]; exact ⟨rfl, rfl⟩))
    (fun os started H enc _ => lifted os started H enc)
end Go.Proofs.Ytainefacghlmjaa.gbnFastP
