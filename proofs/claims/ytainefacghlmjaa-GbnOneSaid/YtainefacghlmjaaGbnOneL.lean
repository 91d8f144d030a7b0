/- With one element ahead and two numbers the transmission is that by the alternating bit: the law returns true for every input. No condition. -/
import Derived.Test.YtainefacghlmjaaGbnLaw
import Derived.Test.YtainefacghlmjaaAbp2
import Derived.BigQuiet
import Derived.OrdersHeld
namespace Go.Proofs.Ytainefacghlmjaa.gbnOneP
open Go.ChangeShapes Go.WideShapes Go.ChangeAt Go.RowKit
open Go.Proofs.Ytainefacghlmjaa.Kit Go.Proofs.Ytainefacghlmjaa.App Go.Proofs.Ytainefacghlmjaa.Cells Go.Proofs.Ytainefacghlmjaa.Fate Go.Proofs.Ytainefacghlmjaa.Abp Go.Proofs.Ytainefacghlmjaa.GbnMath Go.Proofs.Ytainefacghlmjaa.Gbn
set_option linter.unusedVariables false
set_option maxRecDepth 20000

abbrev Law (p q : Option Addr) (cap cq : Nat) (l : List Int) (fs : List Fat) (w : World) : Prop := Calls Try.prog 4 #[.slice p l.length cap, .slice q fs.length cq] w fun e w' => e = .returned (.bool true) ∧ Below w.heap.size w w'
theorem bad_one (l : List Int) (m : Nat) : badG l (1 : Nat) (2 : Nat) m = bad l m := by
  unfold badG
  by_cases h : bad l m ≠ 0
  · rw [if_pos h]
  · rw [if_neg h, if_pos (by omega)]; omega
set_option maxHeartbeats 1000000 in
theorem law_bad (p q : Option Addr) (cap cq : Nat) (l : List Int) (fs : List Fat) (w : World) (hi : Ints w p cap l) (hf : CI lay w q cq fs) (h0 : bad l fs.length ≠ 0) : Law p q cap cq l fs w := by
  obtain ⟨c, hc⟩ : ∃ c, c = bad l fs.length := ⟨_, rfl⟩
  rw [← hc] at h0
  have FA := Lib.hid (fact_any w)
  have RB : ∀ w', Below w.heap.size w w' → Calls Try.prog 7 #[.slice p l.length cap, .int .i64 1, .int .i64 2, .slice q fs.length cq] w' fun e w'' => e = .returned (.tuple #[.slice none 0 0, .int .i64 0, er c]) ∧ w'' = w' :=
    fun w' hb => Gbn.run_bad p q cap cq l.length fs.length l (1 : Nat) (2 : Nat) w' rfl (hi.below hb) hf.len_le c (hc.trans (bad_one l fs.length).symm) h0
  have RB := Lib.hid RB
  have AB := Lib.hid (fun w' (hb : Below w.heap.size w w') => Abp.run_bad p q cap cq l.length fs.length l w' rfl (hi.below hb) hf.len_le c hc h0)
  have TT := Lib.hid (fun w' => ints_any_q none none 0 0 0 0 [] [] w' rfl rfl (Ints.nil w') (Ints.nil w') true rfl)
  rw [er_ne h0] at RB AB
  clear hi hf hc h0
  unfold Law
  go_enter Try.func4, Try.ntmps4
  go_wp2_with fail
  refine FA.out.mono ?_; rintro e w1 ⟨rfl, hb1⟩
  go_wp2_with fail
  refine (RB.out _ hb1).mono ?_; rintro e w2 ⟨rfl, rfl⟩
  go_wp2_with fail
  refine (AB.out _ hb1).mono ?_; rintro e w3 ⟨rfl, rfl⟩
  go_wp2_with fail
  go_quiet ((go_at_call 8; refine Calls.quiet_of (TT.out _)))
  go_wp2_with fail
  go_ret
  exact ⟨rfl, below_drewN hb1 _⟩
set_option maxHeartbeats 1000000 in
theorem law_good (p q : Option Addr) (cap cq : Nat) (l : List Int) (fs : List Fat) (w : World) (hi : Ints w p cap l) (hf : CI lay w q cq fs) (h0 : bad l fs.length = 0) : Law p q cap cq l fs w := by
  obtain ⟨n, hn⟩ : ∃ n, n = l.length := ⟨_, rfl⟩
  obtain ⟨m, hm⟩ : ∃ m, m = fs.length := ⟨_, rfl⟩
  obtain ⟨K, C, hr⟩ : ∃ K C, (K, C) = AbpMath.run n fs 0 0 := ⟨_, _, rfl⟩
  have hr2 := run_one l fs 0 0 0 (Nat.zero_le _) (Nat.le_refl _) (by omega) (Nat.zero_le _) (Nat.le_refl _) (by omega) (Nat.zero_le _)
  have hbt := AbpMath.run_between n fs 0 0 (Nat.le_refl _) (by omega) (by omega) (by omega)
  rw [← hn, ← hr, List.take_zero] at hr2
  rw [← hr] at hbt
  obtain ⟨_, _, _, hCn⟩ := hbt
  dsimp only at hCn hr2
  unfold Law
  have RG : ∀ w', Below w.heap.size w w' → Calls Try.prog 7 #[.slice p n cap, .int .i64 1, .int .i64 2, .slice q m cq] w' fun e w'' => ∃ v, e = .returned (.tuple #[v, .int .i64 (K : Nat), .nilIface]) ∧ OwnI w'' w'.heap.size v (l.take C) ∧ Below w'.heap.size w' w'' :=
    fun w' hb => Gbn.run_good p q cap cq n m 1 2 l fs w' hn hm (hi.below hb) (hf.below hb) (by rw [hm]; exact (bad_one l fs.length).trans h0) K (l.take C) hr2
  have RG := Lib.hid RG
  have AG := Lib.hid (fun w' (hb : Below w.heap.size w w') => Abp.run_good p q cap cq n m l fs w' hn hm (hi.below hb) (hf.below hb) (by rw [hm]; exact h0) K C hr)
  have FA := Lib.hid (fact_any w)
  have HTL := Lib.hid (show (l.take C).length = C by rw [List.length_take, ← hn]; omega)
  rw [← hm, ← hn]
  clear hi hf hn hm h0 hr hr2 hCn
  go_enter Try.func4, Try.ntmps4
  go_wp2_with fail
  refine FA.out.mono ?_; rintro e w1 ⟨rfl, hb1⟩
  go_wp2_with fail
  refine (RG.out _ hb1).mono ?_; rintro e w2 ⟨v, rfl, ho, hb2⟩
  have hB2 := bcall hb1 hb2
  obtain ⟨vp, vc, rfl, hvi⟩ := ho.form
  rw [HTL.out]
  have HV := Lib.hid hvi
  clear ho hb2 hvi hb1 FA RG
  go_wp2_with fail
  refine (AG.out _ hB2).mono ?_; rintro e w3 ⟨v, rfl, ho, hb3⟩
  have hB3 := bcall hB2 hb3
  obtain ⟨vp2, vc2, rfl, hvi2⟩ := ho.form
  rw [HTL.out]
  have HV2 := Lib.hid hvi2
  have TT := Lib.hid (fun nq => ints_any_q vp vp2 vc vc2 C C (l.take C) (l.take C) (w3.drewN nq) HTL.out.symm HTL.out.symm (HV.out.below (below_drewN hb3 _)) HV2.out true (by simp))
  clear ho hb3 hvi2 AG HV
  go_wp2_with fail
  go_quiet ((go_at_call 8; refine Calls.quiet_of (TT.out _)))
  go_wp2_with fail
  go_ret
  exact ⟨rfl, below_drewN hB3 _⟩

theorem reads : Try.f4.params.toList.all (fun t => Try.prog.readableRec t && decide (t < Try.prog.types.size)) = true := by kernel_rfl

theorem contract (H : Type) (enc : TypeId × Value → H) (W : World) (base : Nat) (args : Array Value) (ds gs : List (DataW H)) (before : List MemPlace)
    (hval : ∀ (j : Nat) t v, Try.f4.params[j]? = some t → args[j]? = some v → Value.okWide Try.prog W .any base t v)
    (hW : DataW.Whole enc Try.prog Try.f4.params.toList Rows.gbnOneSpec.vars false W args.toList ds gs before) :
    Calls Try.prog 4 args W fun e W' => ∃ v, e = .returned v ∧ Rows.gbnOneSpec.post enc Try.prog Try.f4 false true false false W args v W' := by
  have hW' := hW
  obtain ⟨p, q, hA0, hV, rfl, hfz, hnd⟩ := hW
  have hA : DataW.TrodAll enc Try.prog W 0 (fun _ => true) true Try.f4.params.toList args.toList ds p := hA0
  have hlt := hA.lt
  rw [Try.params4] at hA hval
  obtain ⟨v0, vs0, d0, ds0, p0, q0, hargs, rfl, rfl, h0, r0⟩ := trodAll_cons hA
  obtain ⟨v1, vs1, d1, ds1, p1, q1, hvs1, rfl, rfl, h1, r1⟩ := trodAll_cons r0
  obtain ⟨hvsn, rfl, rfl⟩ := trodAll_nil r1
  simp only [hvsn, hvs1] at hargs
  obtain rfl : args = #[v0, v1] := by cases args; simp_all
  obtain ⟨rfl, rfl⟩ := trodVars_none hV
  clear hA0
  obtain ⟨p0a, cap0, l0, rfl, i0⟩ := open_intsl Try.underlying22 Try.underlying3 (by kernel_rfl) (hval 0 22 v0 rfl rfl) h0 (fun x hx => hlt x (by simp [hx]))
  obtain ⟨p1a, cap1, l1, rfl, i1, e1⟩ := Go.Proofs.Ytainefacghlmjaa.Fate.open_fates (hval 1 23 v1 rfl rfl) h1 (fun x hx => hlt x (by simp [hx]))
  exact law_post 4 laid reads rfl Try.underlying4 rfl hW' ⟨rfl, rfl, rfl⟩ (by
    by_cases h : Abp.bad l0 l1.length = 0
    · exact law_good p0a p1a cap0 cap1 l0 l1 W i0 i1 h
    · exact law_bad p0a p1a cap0 cap1 l0 l1 W i0 i1 h)

set_option maxRecDepth 100000 in
theorem lifted (os : Os) (started : os.Started) (H : Type) (enc : TypeId × Value → H) :
    ReturnsInHanded {} Try.checked os 4 .any (Rows.gbnOneSpec.pre6 enc Try.prog Try.f4 Rows.gbnOneRow.domain false) (Rows.gbnOneSpec.post enc Try.prog Try.f4 false true false false) := by
  refine returnsInHanded_of_change (C := Try.checked) own started (by kernel_rfl) Try.func4
    (ChangeSpec.witness6 (enc := enc) (C := Try.checked) false ⟨#[], #[.slice none 0 0, .slice none 0 0], []⟩ 8 (by kernel_rfl) (by kernel_rfl) (by kernel_rfl) (by kernel_rfl)) ?_
  intro W base args ds gs before hval hW _ _
  exact contract H enc W base args ds gs before hval hW

theorem proved : Rows.GbnOneSaid :=
  OpenClaim.holds_of_wide 4 Try.f4 rfl rfl rfl rfl rfl rfl rfl ⟨rfl, rfl, rfl, rfl, rfl⟩ rfl rfl rfl rfl rfl (by kernel_rfl) Try.func4 (by kernel_rfl)
    (of_decide_eq_true (by kernel_rfl)) (by unfold Func.isWrapper; first | (rw [if_pos (by decide +kernel)]; kernel_rfl) | (rw [if_neg (by decide +kernel)]; exact ⟨rfl, rfl⟩))
    (fun os started H enc _ => lifted os started H enc)
end Go.Proofs.Ytainefacghlmjaa.gbnOneP
