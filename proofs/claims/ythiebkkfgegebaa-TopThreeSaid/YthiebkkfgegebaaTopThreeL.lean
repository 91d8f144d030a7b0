/- With numbers enough the three protocols deliver a beginning of the data each, and where the alternating bit delivers all, selective repeat does: the law returns true for every input. No condition. -/
import Derived.Test.YthiebkkfgegebaaSrepLaw
import Derived.Test.YthiebkkfgegebaaAbp2
import Derived.Test.YthiebkkfgegebaaGbn2
namespace Go.Proofs.Ythiebkkfgegebaa.topThreeP
open Go.ChangeShapes Go.WideShapes Go.ChangeAt Go.RowKit
open Go.Proofs.Ythiebkkfgegebaa.Kit Go.Proofs.Ythiebkkfgegebaa.App Go.Proofs.Ythiebkkfgegebaa.Cells Go.Proofs.Ythiebkkfgegebaa.Fate Go.Proofs.Ythiebkkfgegebaa.Abp Go.Proofs.Ythiebkkfgegebaa.Gbn Go.Proofs.Ythiebkkfgegebaa.SrepMath
set_option linter.unusedVariables false
set_option maxRecDepth 20000

abbrev Law (p q : Option Addr) (cap cq : Nat) (l : List Int) (W : Int) (fs : List Fat) (w : World) : Prop := Calls Try.prog 5 #[.slice p l.length cap, .int .i64 W, .slice q fs.length cq] w fun e w' => e = .returned (.bool true) ∧ Below w.heap.size w w'
theorem ints_take {w : World} {p : Option Addr} {cap : Nat} {l : List Int} (h : Ints w p cap l) (k : Nat) : Ints w p cap (l.take k) := by
  have hl : (l.take k).length ≤ l.length := by rw [List.length_take]; omega
  refine ⟨Nat.le_trans hl h.1, h.2.1, fun j => ?_, fun hn => ?_⟩
  · by_cases hj : j < k
    · rw [List.getElem?_take, if_pos hj]; exact h.2.2.1 j
    · rw [List.getElem?_take, if_neg hj]; exact wf_zero
  · obtain ⟨b, off, e, hb, hc⟩ := h.2.2.2 (by omega)
    refine ⟨b, off, e, hb, fun j hj => ?_⟩
    rw [hc j (by omega), List.getElem?_take, if_pos (by rw [List.length_take] at hj; omega)]
abbrev VA (W : World) : World := W.alloc (.cells #[.int .i64 4] 3)
abbrev VB (W : World) : World := (VA W).alloc (.cells #[.bool false, .bool false] 32)
theorem lit_4 (W : World) : Ints (VA W) (some ⟨W.heap.size, 0, none⟩) 1 [4] := lit_ints W [4] (by decide) (by decide)
theorem lit_b (W : World) : CI lay (VB W) (some ⟨W.heap.size + 1, 0, none⟩) 1 [⟨false, false⟩] := by
  have h := lit_fates (VA W) [⟨false, false⟩] 32 (by decide)
  rw [Srep.aszS] at h
  exact h
theorem in_any (n a b : Int) (w : World) (R : Bool) (hR : R = (decide (a ≤ n) && decide (n ≤ b))) : Calls Try.prog 10 #[.int .i64 n, .int .i64 a, .int .i64 b] w fun e w' => e = .returned (.bool R) ∧ w' = w := by
  by_cases h1 : a ≤ n
  · have t1 : decide (n ≥ a) = true := decide_eq_true h1
    have t1' : decide (a ≤ n) = true := decide_eq_true h1
    rw [t1', Bool.true_and] at hR
    by_cases h2 : n ≤ b
    · have t2 : decide (n ≤ b) = true := decide_eq_true h2
      rw [t2] at hR
      subst hR
      go_enter Try.func10, Try.ntmps10
      go_wp2_with fail
      go_ret
      exact ⟨rfl, rfl⟩
    · have t2 : decide (n ≤ b) = false := decide_eq_false h2
      rw [t2] at hR
      subst hR
      go_enter Try.func10, Try.ntmps10
      go_wp2_with fail
      go_ret
      exact ⟨rfl, rfl⟩
  · have t1 : decide (n ≥ a) = false := decide_eq_false h1
    have t1' : decide (a ≤ n) = false := decide_eq_false h1
    rw [t1', Bool.false_and] at hR
    subst hR
    go_enter Try.func10, Try.ntmps10
    go_wp2_with fail
    go_ret
    exact ⟨rfl, rfl⟩
theorem badG_of {l : List Int} {W R : Int} {m : Nat} (h : 1 ≤ W ∧ W ≤ 8 ∧ 2 ≤ R ∧ R ≤ 16) : badG l W R m = bad l m := by
  unfold badG
  by_cases h2 : bad l m ≠ 0
  · rw [if_pos h2]
  · rw [if_neg h2, if_pos h]; exact (Decidable.not_not.1 h2).symm
set_option maxHeartbeats 2000000 in
theorem law_out (p q : Option Addr) (cap cq : Nat) (l : List Int) (W : Int) (fs : List Fat) (w : World) (hi : Ints w p cap l) (hf : CI lay w q cq fs) (h : ¬ (1 ≤ W ∧ W ≤ 8)) : Law p q cap cq l W fs w := by
  have s1 : ∀ W : World, Calls Try.prog 9 #[.slice (some ⟨W.heap.size, 0, none⟩) 1 1, .slice (some ⟨W.heap.size + 1, 0, none⟩) 1 1] (VB W) fun e w' => ∃ v, e = .returned (.tuple #[v, .int .i64 1, .nilIface]) ∧ OwnI w' (VB W).heap.size v (List.take 1 [4]) ∧ Below (VB W).heap.size (VB W) w' :=
    fun W => Abp.run_good (some ⟨W.heap.size, 0, none⟩) (some ⟨W.heap.size + 1, 0, none⟩) 1 1 1 1 [4] [⟨false, false⟩] (VB W) rfl rfl ((lit_4 W).below (balloc (brefl _) _)) (lit_b W) (by decide) 1 1 (by decide)
  have S1 := Lib.hid s1
  unfold VB VA at S1
  clear s1
  have IN := Lib.hid (fun w' => in_any W 1 8 w' false (by
    rcases Int.lt_or_le W 1 with h1 | h1
    · rw [decide_eq_false (by omega)]; rfl
    · rw [decide_eq_true h1, decide_eq_false (by omega)]; rfl))
  clear hi hf h
  unfold Law
  go_enter Try.func5, Try.ntmps5
  go_wp2_with fail
  refine (S1.out _).mono ?_; rintro e w1 ⟨v1, rfl, ho1, hb1⟩
  have hB1 : Below w.heap.size w w1 := (balloc (balloc (brefl w) _) _).trans (hb1.mono (by simp; omega))
  obtain ⟨sp, sc, rfl, _⟩ := ho1.form
  rw [show (List.take 1 [(4 : Int)]).length = 1 from rfl]
  clear ho1 hb1 S1
  go_wp2_with fail
  refine (IN.out _).mono ?_; rintro e w2 ⟨rfl, rfl⟩
  go_wp2_with fail
  go_ret
  exact ⟨rfl, hB1⟩
set_option maxHeartbeats 2000000 in
theorem law_bad (p q : Option Addr) (cap cq : Nat) (l : List Int) (W : Nat) (fs : List Fat) (w : World) (hi : Ints w p cap l) (hf : CI lay w q cq fs) (h1 : 1 ≤ W) (h8 : W ≤ 8) (h0 : bad l fs.length ≠ 0) : Law p q cap cq l W fs w := by
  have s1 : ∀ W : World, Calls Try.prog 9 #[.slice (some ⟨W.heap.size, 0, none⟩) 1 1, .slice (some ⟨W.heap.size + 1, 0, none⟩) 1 1] (VB W) fun e w' => ∃ v, e = .returned (.tuple #[v, .int .i64 1, .nilIface]) ∧ OwnI w' (VB W).heap.size v (List.take 1 [4]) ∧ Below (VB W).heap.size (VB W) w' :=
    fun W => Abp.run_good (some ⟨W.heap.size, 0, none⟩) (some ⟨W.heap.size + 1, 0, none⟩) 1 1 1 1 [4] [⟨false, false⟩] (VB W) rfl rfl ((lit_4 W).below (balloc (brefl _) _)) (lit_b W) (by decide) 1 1 (by decide)
  have S1 := Lib.hid s1
  unfold VB VA at S1
  clear s1
  have IN := Lib.hid (fun w' => in_any W 1 8 w' true (by rw [decide_eq_true (show (1 : Int) ≤ W by omega), decide_eq_true (show (W : Int) ≤ 8 by omega)]; rfl))
  obtain ⟨c, hc⟩ : ∃ c, c = bad l fs.length := ⟨_, rfl⟩
  rw [← hc] at h0
  have AB := Lib.hid (fun w' (hb : Below w.heap.size w w') => Abp.run_bad p q cap cq l.length fs.length l w' rfl (hi.below hb) hf.len_le c hc h0)
  have GB := Lib.hid (fun w' (hb : Below w.heap.size w w') => Gbn.run_bad p q cap cq l.length fs.length l W ((W : Int) + 1) w' rfl (hi.below hb) hf.len_le c (by rw [badG_of (by omega)]; exact hc) h0)
  have SB := Lib.hid (fun w' (hb : Below w.heap.size w w') => Srep.run_bad p q cap cq l.length fs.length l W (2 * (W : Int)) w' rfl (hi.below hb) hf.len_le c (by rw [badG_of (by omega)]; exact hc) h0)
  rw [er_ne h0] at AB GB SB
  clear hi hf hc h0
  unfold Law
  go_enter Try.func5, Try.ntmps5
  go_wp2_with fail
  refine (S1.out _).mono ?_; rintro e w1 ⟨v1, rfl, ho1, hb1⟩
  have hB1 : Below w.heap.size w w1 := (balloc (balloc (brefl w) _) _).trans (hb1.mono (by simp; omega))
  obtain ⟨sp, sc, rfl, _⟩ := ho1.form
  rw [show (List.take 1 [(4 : Int)]).length = 1 from rfl]
  clear ho1 hb1 S1
  go_wp2_with fail
  refine (IN.out _).mono ?_; rintro e w2 ⟨rfl, rfl⟩
  go_wp2_with fail
  refine (AB.out _ hB1).mono ?_; rintro e w3 ⟨rfl, rfl⟩
  go_wp2_with fail
  refine (GB.out _ hB1).mono ?_; rintro e w4 ⟨rfl, rfl⟩
  go_wp2_with fail
  refine (SB.out _ hB1).mono ?_; rintro e w5 ⟨rfl, rfl⟩
  go_wp2_with fail
  go_ret
  exact ⟨rfl, hB1⟩
set_option maxHeartbeats 4000000 in
theorem law_good (p q : Option Addr) (cap cq : Nat) (l : List Int) (W : Nat) (fs : List Fat) (w : World) (hi : Ints w p cap l) (hf : CI lay w q cq fs) (h1 : 1 ≤ W) (h8 : W ≤ 8) (h0 : bad l fs.length = 0) : Law p q cap cq l W fs w := by
  have s1 : ∀ W : World, Calls Try.prog 9 #[.slice (some ⟨W.heap.size, 0, none⟩) 1 1, .slice (some ⟨W.heap.size + 1, 0, none⟩) 1 1] (VB W) fun e w' => ∃ v, e = .returned (.tuple #[v, .int .i64 1, .nilIface]) ∧ OwnI w' (VB W).heap.size v (List.take 1 [4]) ∧ Below (VB W).heap.size (VB W) w' :=
    fun W => Abp.run_good (some ⟨W.heap.size, 0, none⟩) (some ⟨W.heap.size + 1, 0, none⟩) 1 1 1 1 [4] [⟨false, false⟩] (VB W) rfl rfl ((lit_4 W).below (balloc (brefl _) _)) (lit_b W) (by decide) 1 1 (by decide)
  have S1 := Lib.hid s1
  unfold VB VA at S1
  clear s1
  have IN := Lib.hid (fun w' => in_any W 1 8 w' true (by rw [decide_eq_true (show (1 : Int) ≤ W by omega), decide_eq_true (show (W : Int) ≤ 8 by omega)]; rfl))
  obtain ⟨n, hn⟩ : ∃ n, n = l.length := ⟨_, rfl⟩
  obtain ⟨m, hm⟩ : ∃ m, m = fs.length := ⟨_, rfl⟩
  obtain ⟨hl20, hm200, _⟩ := (bad_zero l fs.length).1 h0
  -- abp
  obtain ⟨k1, c1, hr1⟩ : ∃ k c, (k, c) = AbpMath.run n fs 0 0 := ⟨_, _, rfl⟩
  have hbt := AbpMath.run_between n fs 0 0 (Nat.le_refl _) (by omega) (by omega) (by omega)
  have hfi := AbpMath.run_fines n fs 0 0 (by omega)
  rw [← hr1] at hbt hfi
  obtain ⟨hk1, _, hk1n, hc1⟩ := hbt
  dsimp only at hk1 hk1n hc1 hfi
  -- gbn
  obtain ⟨k2, c2, hr2, hk2, _, hc2⟩ := GbnMath.run_exact l W (W + 1) h1 (by omega) fs 0 0 0 (Nat.zero_le _) (Nat.le_refl _) (Nat.zero_le _) (Nat.zero_le _) (Nat.le_refl _) (Nat.zero_le _) (Nat.zero_le _)
  rw [List.take_zero] at hr2
  -- srep
  obtain ⟨c3, hg, hc3, hk3, _, hkn⟩ := run_exact l W (2 * W) h1 (Nat.le_refl _) fs
  obtain ⟨T, hT⟩ : ∃ T, SrepMath.run l W (2 * W) fs (st0 l.length W) = T := ⟨_, rfl⟩
  rw [hT] at hg hk3 hkn
  obtain ⟨k3, hKe⟩ : ∃ K, T.sf = K := ⟨_, rfl⟩
  rw [hKe] at hk3 hkn
  unfold Law
  rw [← hm] at h0 hm200 ⊢
  rw [← hn] at hl20 hc2 hc3 hkn hT ⊢
  have AG := Lib.hid (fun w' (hb : Below w.heap.size w w') => Abp.run_good p q cap cq n m l fs w' hn hm (hi.below hb) (hf.below hb) h0 k1 c1 hr1)
  have GG : ∀ w', Below w.heap.size w w' → Calls Try.prog 11 #[.slice p n cap, .int .i64 W, .int .i64 ((W : Int) + 1), .slice q m cq] w' fun e w'' => ∃ v, e = .returned (.tuple #[v, .int .i64 (k2 : Nat), .nilIface]) ∧ OwnI w'' w'.heap.size v (l.take c2) ∧ Below w'.heap.size w' w'' :=
    fun w' hb => Gbn.run_good p q cap cq n m W (W + 1) l fs w' hn hm (hi.below hb) (hf.below hb) (by rw [badG_of (by omega)]; exact h0) k2 (l.take c2) hr2
  have SG : ∀ w', Below w.heap.size w w' → Calls Try.prog 7 #[.slice p n cap, .int .i64 W, .int .i64 (2 * (W : Int)), .slice q m cq] w' fun e w'' => ∃ v, e = .returned (.tuple #[v, .int .i64 (k3 : Nat), .nilIface]) ∧ OwnI w'' w'.heap.size v (l.take c3) ∧ Below w'.heap.size w' w'' := fun w' hb => by
    have h := Srep.run_good p q cap cq n m W (2 * W) l fs w' hn hm (hi.below hb) (hf.below hb) (by rw [badG_of (by omega)]; exact h0) T hT
    rw [hg, hKe, show ((2 * W : Nat) : Int) = 2 * (W : Int) by omega] at h
    exact h
  have GG := Lib.hid GG
  have SG := Lib.hid SG
  have HI := Lib.hid hi
  have HN := Lib.hid hn
  have H1 := Lib.hid (show (l.take c1).length = c1 by rw [List.length_take, ← hn]; omega)
  have H2 := Lib.hid (show (l.take c2).length = c2 by rw [List.length_take, ← hn]; omega)
  have H3 := Lib.hid (show (l.take c3).length = c3 by rw [List.length_take, ← hn]; omega)
  have HALL := Lib.hid (show n ≤ k1 → c3 = n from fun h => by
    have := hkn (by omega)
    omega)
  have a1 : decide ((c1 : Int) > (n : Int)) = false := decide_eq_false (by omega)
  have a2 : decide ((c2 : Int) > (n : Int)) = false := decide_eq_false (by omega)
  have a3 : decide ((c3 : Int) > (n : Int)) = false := decide_eq_false (by omega)
  have b1 : decide ((k1 : Int) ≤ (c1 : Int)) = true := decide_eq_true (by omega)
  have b2 : decide ((k2 : Int) ≤ (c2 : Int)) = true := decide_eq_true (by omega)
  have b3 : decide ((k3 : Int) ≤ (c3 : Int)) = true := decide_eq_true (by omega)
  have hcap : n ≤ cap := by rw [hn]; exact hi.1
  have hc1c : c1 ≤ cap := by omega
  have hc2c : c2 ≤ cap := by omega
  have hc3c : c3 ≤ cap := by omega
  have hcm := hi.2.1
  clear hi hf hn hm h0 hr1 hr2 hT hg hKe hfi hkn hk1n
  go_enter Try.func5, Try.ntmps5
  go_wp2_with fail
  refine (S1.out _).mono ?_; rintro e w1 ⟨v1, rfl, ho1, hb1⟩
  have hB1 : Below w.heap.size w w1 := (balloc (balloc (brefl w) _) _).trans (hb1.mono (by simp; omega))
  obtain ⟨sp, sc, rfl, _⟩ := ho1.form
  rw [show (List.take 1 [(4 : Int)]).length = 1 from rfl]
  clear ho1 hb1 S1
  go_wp2_with fail
  refine (IN.out _).mono ?_; rintro e w2 ⟨rfl, rfl⟩
  go_wp2_with fail
  refine (AG.out _ hB1).mono ?_; rintro e w3 ⟨v, rfl, ho, hb3⟩
  have hB3 := bcall hB1 hb3
  obtain ⟨p1, q1, rfl, hv1⟩ := ho.form
  rw [H1.out]
  have V1 := Lib.hid hv1
  clear ho hb3 hv1 AG IN hB1
  go_wp2_with fail
  refine (GG.out _ hB3).mono ?_; rintro e w4 ⟨v, rfl, ho, hb4⟩
  have hB4 := bcall hB3 hb4
  have V1 := Lib.hid (V1.out.below hb4)
  obtain ⟨p2, q2, rfl, hv2⟩ := ho.form
  rw [H2.out]
  have V2 := Lib.hid hv2
  clear ho hb4 hv2 GG hB3
  go_wp2_with fail
  refine (SG.out _ hB4).mono ?_; rintro e w5 ⟨v, rfl, ho, hb5⟩
  have hB5 := bcall hB4 hb5
  have V1 := Lib.hid (V1.out.below hb5)
  have V2 := Lib.hid (V2.out.below hb5)
  obtain ⟨p3, q3, rfl, hv3⟩ := ho.form
  rw [H3.out]
  have V3 := Lib.hid hv3
  clear ho hb5 hv3 SG hB4
  have E1 := Lib.hid (ints_any p1 p q1 cap c1 c1 (l.take c1) (l.take c1) w5 H1.out.symm H1.out.symm V1.out (ints_take (HI.out.below hB5) c1) true (by simp))
  go_wp2_with fail
  refine E1.out.mono ?_; rintro e w6 ⟨rfl, hb6⟩
  have hB6 := bcall hB5 hb6
  have E2 := Lib.hid (ints_any p2 p q2 cap c2 c2 (l.take c2) (l.take c2) w6 H2.out.symm H2.out.symm (V2.out.below hb6) (ints_take (HI.out.below hB6) c2) true (by simp))
  have V3 := Lib.hid (V3.out.below hb6)
  clear hb6 hB5 E1
  go_wp2_with fail
  refine E2.out.mono ?_; rintro e w7 ⟨rfl, hb7⟩
  have hB7 := bcall hB6 hb7
  have E3 := Lib.hid (ints_any p3 p q3 cap c3 c3 (l.take c3) (l.take c3) w7 H3.out.symm H3.out.symm (V3.out.below hb7) (ints_take (HI.out.below hB7) c3) true (by simp))
  have V3 := Lib.hid (V3.out.below hb7)
  clear hb7 hB6 E2
  go_wp2_with fail
  refine E3.out.mono ?_; rintro e w8 ⟨rfl, hb8⟩
  have hB8 := bcall hB7 hb8
  have V3 := Lib.hid (V3.out.below hb8)
  clear hb8 hB7 E3
  by_cases hk : k1 < n
  · have d1 : decide ((k1 : Int) < (n : Int)) = true := decide_eq_true (by omega)
    go_wp2_with fail
    go_ret
    exact ⟨by first | rfl | simp, hB8⟩
  · have d1 : decide ((k1 : Int) < (n : Int)) = false := decide_eq_false (by omega)
    obtain rfl : c3 = n := HALL.out (by omega)
    have E4 := Lib.hid (ints_any p3 p q3 cap c3 c3 (l.take c3) l w8 H3.out.symm HN.out V3.out (HI.out.below hB8) true (by rw [List.take_of_length_le (by rw [← HN.out]; exact Nat.le_refl _)]; simp))
    go_wp2_with fail
    refine E4.out.mono ?_; rintro e w9 ⟨rfl, hb9⟩
    have hB9 := bcall hB8 hb9
    go_wp2_with fail
    go_ret
    exact ⟨by first | rfl | simp, hB9⟩

theorem reads : Try.f5.params.toList.all (fun t => Try.prog.readableRec t && decide (t < Try.prog.types.size)) = true := by kernel_rfl

theorem contract (H : Type) (enc : TypeId × Value → H) (W : World) (base : Nat) (args : Array Value) (ds gs : List (DataW H)) (before : List MemPlace)
    (hval : ∀ (j : Nat) t v, Try.f5.params[j]? = some t → args[j]? = some v → Value.okWide Try.prog W .any base t v)
    (hW : DataW.Whole enc Try.prog Try.f5.params.toList Rows.topThreeSpec.vars false W args.toList ds gs before) :
    Calls Try.prog 5 args W fun e W' => ∃ v, e = .returned v ∧ Rows.topThreeSpec.post enc Try.prog Try.f5 false true false false W args v W' := by
  have hW' := hW
  obtain ⟨p, q, hA0, hV, rfl, hfz, hnd⟩ := hW
  have hA : DataW.TrodAll enc Try.prog W 0 (fun _ => true) true Try.f5.params.toList args.toList ds p := hA0
  have hlt := hA.lt
  rw [Try.params5] at hA hval
  obtain ⟨v0, vs0, d0, ds0, p0, q0, hargs, rfl, rfl, h0, r0⟩ := trodAll_cons hA
  obtain ⟨v1, vs1, d1, ds1, p1, q1, hvs1, rfl, rfl, h1, r1⟩ := trodAll_cons r0
  obtain ⟨v2, vs2, d2, ds2, p2, q2, hvs2, rfl, rfl, h2, r2⟩ := trodAll_cons r1
  obtain ⟨hvsn, rfl, rfl⟩ := trodAll_nil r2
  simp only [hvsn, hvs2, hvs1] at hargs
  obtain rfl : args = #[v0, v1, v2] := by cases args; simp_all
  obtain ⟨rfl, rfl⟩ := trodVars_none hV
  clear hA0
  obtain ⟨p0a, cap0, l0, rfl, i0⟩ := open_intsl Try.underlying22 Try.underlying3 (by kernel_rfl) (hval 0 22 v0 rfl rfl) h0 (fun x hx => hlt x (by simp [hx]))
  obtain ⟨a1, rfl, rfl, rfl, w1⟩ := open_int Try.underlying3 (hval 1 3 v1 rfl rfl) h1
  have b1 := bounds_int w1
  obtain ⟨p2a, cap2, l2, rfl, i2, e2⟩ := Go.Proofs.Ythiebkkfgegebaa.Fate.open_fates (hval 2 23 v2 rfl rfl) h2 (fun x hx => hlt x (by simp [hx]))
  exact law_post 4 laid reads rfl Try.underlying4 rfl hW' ⟨rfl, rfl, rfl⟩ (by
    by_cases h : 1 ≤ a1 ∧ a1 ≤ 8
    · obtain ⟨W', rfl⟩ : ∃ k : Nat, a1 = k := ⟨a1.toNat, by omega⟩
      by_cases h0 : Abp.bad l0 l2.length = 0
      · exact law_good p0a p2a cap0 cap2 l0 W' l2 W i0 i2 (by omega) (by omega) h0
      · exact law_bad p0a p2a cap0 cap2 l0 W' l2 W i0 i2 (by omega) (by omega) h0
    · exact law_out p0a p2a cap0 cap2 l0 a1 l2 W i0 i2 h)

set_option maxRecDepth 100000 in
theorem lifted (os : Os) (started : os.Started) (H : Type) (enc : TypeId × Value → H) :
    ReturnsInHanded {} Try.checked os 5 .any (Rows.topThreeSpec.pre6 enc Try.prog Try.f5 Rows.topThreeRow.domain false) (Rows.topThreeSpec.post enc Try.prog Try.f5 false true false false) := by
  refine returnsInHanded_of_change (C := Try.checked) own started (by kernel_rfl) Try.func5
    (ChangeSpec.witness6 (enc := enc) (C := Try.checked) false ⟨#[], #[.slice none 0 0, .int .i64 0, .slice none 0 0], []⟩ 8 (by kernel_rfl) (by kernel_rfl) (by kernel_rfl) (by kernel_rfl)) ?_
  intro W base args ds gs before hval hW _ _
  exact contract H enc W base args ds gs before hval hW

theorem proved : Rows.TopThreeSaid :=
  OpenClaim.holds_of_wide 5 Try.f5 rfl rfl rfl rfl rfl rfl rfl ⟨rfl, rfl, rfl, rfl, rfl⟩ rfl rfl rfl rfl rfl (by kernel_rfl) Try.func5 (by kernel_rfl)
    (of_decide_eq_true (by kernel_rfl)) (by unfold Func.isWrapper; first | (rw [if_pos (by decide +kernel)]; kernel_rfl) | (rw [if_neg (by decide +kernel)]; exact ⟨rfl, rfl⟩))
    (fun os started H enc _ => lifted os started H enc)
end Go.Proofs.Ythiebkkfgegebaa.topThreeP
