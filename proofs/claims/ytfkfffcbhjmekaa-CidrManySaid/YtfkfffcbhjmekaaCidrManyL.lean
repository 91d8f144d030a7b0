/- Addresses are counted once: together there are no more than in both, and no fewer than in either: the law returns true for every input. No condition. -/
import Derived.Test.YtfkfffcbhjmekaaCidrLaw
namespace Go.Proofs.Ytfkfffcbhjmekaa.cidrManyP
open Go.ChangeShapes Go.WideShapes Go.ChangeAt Go.RowKit
open Go.Proofs.Ytfkfffcbhjmekaa.Kit Go.Proofs.Ytfkfffcbhjmekaa.App Go.Proofs.Ytfkfffcbhjmekaa.Cells Go.Proofs.Ytfkfffcbhjmekaa.Cidr Go.Proofs.Ytfkfffcbhjmekaa.CidrMath
set_option linter.unusedVariables false
set_option maxRecDepth 20000

theorem many_some (p : Option Addr) (cap n : Nat) (l : List Pfx) (w : World) (hn : n = l.length) (hc : CI lay w p cap l) :
    Calls Try.prog 15 #[.slice p n cap] w fun e w' => (∃ z V, e = .returned (.tuple #[.int .i64 z, V])) ∧ Below w.heap.size w w' := by
  by_cases h : wrong l = 0
  · exact (many_good p cap n l w hn hc h).mono fun e w' ⟨h1, h2⟩ => ⟨⟨_, _, h1⟩, h2⟩
  · exact (many_bad p cap n l w hn hc _ rfl h).mono fun e w' ⟨h1, h2⟩ => ⟨⟨_, _, h1⟩, h2⟩
theorem both_le (a b : List Pfx) (ha : ∀ x ∈ a, CidrMath.Good x) (hb : ∀ x ∈ b, CidrMath.Good x) : total (few0 (a ++ b)) ≤ total (few0 a) + total (few0 b) ∧ total (few0 a) ≤ total (few0 (a ++ b)) ∧ total (few0 b) ≤ total (few0 (a ++ b)) ∧ total (few0 (a ++ b)) ≤ 65536 := by
  have hab : ∀ x ∈ a ++ b, CidrMath.Good x := fun x hx => by
    rcases List.mem_append.1 hx with h | h
    · exact ha x h
    · exact hb x h
  refine ⟨?_, ?_, ?_, total_few _ hab⟩
  · rw [few0_total _ hab, few0_total _ ha, few0_total _ hb]; exact many_both _ _ _ _
  · rw [few0_total _ hab, few0_total _ ha]; exact many_le _ _ _ _ fun y h => (cov_append _ _ _).2 (.inl h)
  · rw [few0_total _ hab, few0_total _ hb]; exact many_le _ _ _ _ fun y h => (cov_append _ _ _).2 (.inr h)
abbrev Law (pa : Option Addr) (ca : Nat) (a : List Pfx) (pb : Option Addr) (cb : Nat) (b : List Pfx) (w : World) : Prop := Calls Try.prog 6 #[.slice pa a.length ca, .slice pb b.length cb] w fun e w' => e = .returned (.bool true) ∧ Below w.heap.size w w'
set_option maxHeartbeats 1000000 in
theorem law_first (pa : Option Addr) (ca : Nat) (a : List Pfx) (pb : Option Addr) (cb : Nat) (b : List Pfx) (w : World) (ha : CI lay w pa ca a) (hb : CI lay w pb cb b) (h : wrong a ≠ 0) : Law pa ca a pb cb b w := by
  have FA := Lib.hid (fact_any w)
  have M1 := Lib.hid (fun W (hw : Below w.heap.size w W) => many_bad pa ca a.length a W rfl (ha.below hw) _ rfl h)
  have M2 := Lib.hid (fun W (hw : Below w.heap.size w W) => many_some pb cb b.length b W rfl (hb.below hw))
  obtain ⟨c, hc⟩ : ∃ c, wrong a = c := ⟨_, rfl⟩
  rw [hc] at M1
  clear ha hb h hc
  unfold Law
  go_enter Try.func6, Try.ntmps6
  go_wp2_with fail
  refine FA.out.mono ?_; rintro e w1 ⟨rfl, hb1⟩
  go_wp2_with fail
  refine (M1.out _ hb1).mono ?_; rintro e w2 ⟨rfl, hb2⟩
  have hB2 := bcall hb1 hb2
  clear M1 FA hb2 hb1
  go_wp2_with fail
  refine (M2.out _ hB2).mono ?_; rintro e w3 ⟨⟨z, V, rfl⟩, hb3⟩
  have hB3 := bcall hB2 hb3
  go_wp2_with fail
  go_ret
  exact ⟨rfl, hB3⟩
set_option maxHeartbeats 1000000 in
theorem law_second (pa : Option Addr) (ca : Nat) (a : List Pfx) (pb : Option Addr) (cb : Nat) (b : List Pfx) (w : World) (ha : CI lay w pa ca a) (hb : CI lay w pb cb b) (h1 : wrong a = 0) (h2 : wrong b ≠ 0) : Law pa ca a pb cb b w := by
  have FA := Lib.hid (fact_any w)
  have M1 := Lib.hid (fun W (hw : Below w.heap.size w W) => many_good pa ca a.length a W rfl (ha.below hw) h1)
  have M2 := Lib.hid (fun W (hw : Below w.heap.size w W) => many_bad pb cb b.length b W rfl (hb.below hw) _ rfl h2)
  obtain ⟨c, hc⟩ : ∃ c, wrong b = c := ⟨_, rfl⟩
  rw [hc] at M2
  generalize total (few0 a) = x at M1
  clear ha hb h1 h2 hc
  unfold Law
  go_enter Try.func6, Try.ntmps6
  go_wp2_with fail
  refine FA.out.mono ?_; rintro e w1 ⟨rfl, hb1⟩
  go_wp2_with fail
  refine (M1.out _ hb1).mono ?_; rintro e w2 ⟨rfl, hb2⟩
  have hB2 := bcall hb1 hb2
  clear M1 FA hb2 hb1
  go_wp2_with fail
  refine (M2.out _ hB2).mono ?_; rintro e w3 ⟨rfl, hb3⟩
  have hB3 := bcall hB2 hb3
  go_wp2_with fail
  go_ret
  exact ⟨rfl, hB3⟩
set_option maxHeartbeats 2000000 in
theorem law_both (pa : Option Addr) (ca : Nat) (a : List Pfx) (pb : Option Addr) (cb : Nat) (b : List Pfx) (w : World) (ha : CI lay w pa ca a) (hb : CI lay w pb cb b) (h1 : wrong a = 0) (h2 : wrong b = 0) : Law pa ca a pb cb b w := by
  have FA := Lib.hid (fact_any w)
  have M1 := Lib.hid (fun W (hw : Below w.heap.size w W) => many_good pa ca a.length a W rfl (ha.below hw) h1)
  have M2 := Lib.hid (fun W (hw : Below w.heap.size w W) => many_good pb cb b.length b W rfl (hb.below hw) h2)
  obtain ⟨hal, hag⟩ := (wrong_zero a).1 h1
  obtain ⟨hbl, hbg⟩ := (wrong_zero b).1 h2
  obtain ⟨e1, e2, e3, e4⟩ := both_le a b hag hbg
  have hx := total_few a hag
  have hy := total_few b hbg
  obtain ⟨x, hxe⟩ : ∃ x, total (few0 a) = x := ⟨_, rfl⟩
  obtain ⟨y, hye⟩ : ∃ y, total (few0 b) = y := ⟨_, rfl⟩
  rw [hxe] at M1 e1 e2 hx
  rw [hye] at M2 e1 e3 hy
  obtain ⟨n, hn⟩ : ∃ n, a.length = n := ⟨_, rfl⟩
  obtain ⟨m, hm⟩ : ∃ m, b.length = m := ⟨_, rfl⟩
  have q1 : IntKind.i64.wrap ((n : Int) + (m : Int)) = (n : Int) + (m : Int) := by rw [IntKind.wrap_i64]; omega
  have HA := Lib.hid (fun W (hw : Below w.heap.size w W) => ha.below hw)
  have HB := Lib.hid (fun W (hw : Below w.heap.size w W) => hb.below hw)
  unfold Law
  rw [hn, hm]
  rw [hn] at M1 hal
  rw [hm] at M2 hbl
  by_cases h32 : n + m ≤ 32
  · have t0 : decide ((n : Int) + (m : Int) > 32) = false := decide_eq_false (by omega)
    have hw : wrong (a ++ b) = 0 := (wrong_zero _).2 ⟨by rw [List.length_append, hn, hm]; exact h32, fun z hz => by
      rcases List.mem_append.1 hz with h | h
      · exact hag z h
      · exact hbg z h⟩
    have M3 := Lib.hid (fun p c W hc => many_good p c (n + m) (a ++ b) W (by rw [List.length_append, hn, hm]) hc hw)
    generalize total (few0 (a ++ b)) = z at M3 e1 e2 e3 e4
    have HN := Lib.hid hn
    have HM := Lib.hid hm
    have q2 : IntKind.i64.wrap ((x : Int) + (y : Int)) = (x : Int) + (y : Int) := by rw [IntKind.wrap_i64]; omega
    have t1 : decide ((z : Int) ≤ (x : Int) + (y : Int)) = true := decide_eq_true (by omega)
    have t2 : decide ((z : Int) ≥ (x : Int)) = true := decide_eq_true (by omega)
    have t2' : decide ((x : Int) ≤ (z : Int)) = true := decide_eq_true (by omega)
    have t3 : decide ((z : Int) ≥ (y : Int)) = true := decide_eq_true (by omega)
    have t3' : decide ((y : Int) ≤ (z : Int)) = true := decide_eq_true (by omega)
    have t4 : decide ((z : Int) ≤ 65536) = true := decide_eq_true (by omega)
    have n1 : decide (z ≤ x + y) = true := decide_eq_true e1
    have n2 : decide (x ≤ z) = true := decide_eq_true e2
    have n3 : decide (y ≤ z) = true := decide_eq_true e3
    have n4 : decide (z ≤ 65536) = true := decide_eq_true e4
    clear ha hb h1 h2 hag hbg hxe hye hn hm hw
    go_enter Try.func6, Try.ntmps6
    go_wp2_with fail
    refine FA.out.mono ?_; rintro e w1 ⟨rfl, hb1⟩
    go_wp2_with fail
    refine (M1.out _ hb1).mono ?_; rintro e w2 ⟨rfl, hb2⟩
    have hB2 := bcall hb1 hb2
    clear M1 FA hb2 hb1
    go_wp2_with fail
    refine (M2.out _ hB2).mono ?_; rintro e w3 ⟨rfl, hb3⟩
    have hB3 := bcall hB2 hb3
    have hA3 := HA.out _ hB3
    have hs3 := hB3.size
    clear M2 hb3 hB2
    go_wp2_with (first
      | (at_builtin
         refine wp_appC ty rfl (.tmp 46) (.tmp 47) rfl w.heap.size _ [] pa ca n a rfl (OC.nil _ _ _ _) rfl HN.out.symm hA3 (by show 0 + a.length ≤ 1000000000; rw [HN.out]; omega) hs3 ?_
         intro v4 w4 hown4 hg4 hat4
         have hB4 : Below w.heap.size w w4 := below_appC hB3 (OC.nil lay 32 w3 w.heap.size) hg4 hs3
         have hA4 := HB.out _ hB4
         have hs4 := hB4.size
         rw [List.nil_append] at hown4
         have HO4 := Lib.hid hown4
         clear hat4 hg4 hown4)
      | (at_builtin
         refine wp_appC ty rfl (.tmp 49) (.tmp 50) rfl w.heap.size _ a pb cb m b rfl HO4.out rfl HM.out.symm hA4 (by rw [HM.out, HN.out]; omega) hs4 ?_
         intro v5 w5 hown5 hg5 hat5
         have hB5 : Below w.heap.size w w5 := below_appC hB4 HO4.out hg5 hs4
         obtain ⟨p5, c5, hv5, hCI5⟩ := hown5.form
         rw [List.length_append, HN.out, HM.out] at hv5
         subst hv5
         have HC5 := Lib.hid hCI5
         clear hat5 hg5 hown5 hCI5))
    refine (M3.out _ _ _ HC5.out).mono ?_; rintro e w6 ⟨rfl, hb6⟩
    have hB6 := bcall hB5 hb6
    go_wp2_with fail
    go_ret
    exact ⟨rfl, hB6⟩
  · have t0 : decide ((n : Int) + (m : Int) > 32) = true := decide_eq_true (by omega)
    have t0' : decide (32 < (n : Int) + (m : Int)) = true := decide_eq_true (by omega)
    clear ha hb h1 h2 hag hbg hxe hye hn hm e1 e2 e3 e4
    go_enter Try.func6, Try.ntmps6
    go_wp2_with fail
    refine FA.out.mono ?_; rintro e w1 ⟨rfl, hb1⟩
    go_wp2_with fail
    refine (M1.out _ hb1).mono ?_; rintro e w2 ⟨rfl, hb2⟩
    have hB2 := bcall hb1 hb2
    clear M1 FA hb2 hb1
    go_wp2_with fail
    refine (M2.out _ hB2).mono ?_; rintro e w3 ⟨rfl, hb3⟩
    have hB3 := bcall hB2 hb3
    go_wp2_with fail
    go_ret
    exact ⟨rfl, hB3⟩
theorem law_any (pa : Option Addr) (ca : Nat) (a : List Pfx) (pb : Option Addr) (cb : Nat) (b : List Pfx) (w : World) (ha : CI lay w pa ca a) (hb : CI lay w pb cb b) : Law pa ca a pb cb b w := by
  by_cases h1 : wrong a = 0
  · by_cases h2 : wrong b = 0
    · exact law_both pa ca a pb cb b w ha hb h1 h2
    · exact law_second pa ca a pb cb b w ha hb h1 h2
  · exact law_first pa ca a pb cb b w ha hb h1

theorem reads : Try.f6.params.toList.all (fun t => Try.prog.readableRec t && decide (t < Try.prog.types.size)) = true := by kernel_rfl

theorem contract (H : Type) (enc : TypeId × Value → H) (W : World) (base : Nat) (args : Array Value) (ds gs : List (DataW H)) (before : List MemPlace)
    (hval : ∀ (j : Nat) t v, Try.f6.params[j]? = some t → args[j]? = some v → Value.okWide Try.prog W .any base t v)
    (hW : DataW.Whole enc Try.prog Try.f6.params.toList Rows.cidrManySpec.vars false W args.toList ds gs before) :
    Calls Try.prog 6 args W fun e W' => ∃ v, e = .returned v ∧ Rows.cidrManySpec.post enc Try.prog Try.f6 false true false false W args v W' := by
  have hW' := hW
  obtain ⟨p, q, hA0, hV, rfl, hfz, hnd⟩ := hW
  have hA : DataW.TrodAll enc Try.prog W 0 (fun _ => true) true Try.f6.params.toList args.toList ds p := hA0
  have hlt := hA.lt
  rw [Try.params6] at hA hval
  obtain ⟨v0, vs0, d0, ds0, p0, q0, hargs, rfl, rfl, h0, r0⟩ := trodAll_cons hA
  obtain ⟨v1, vs1, d1, ds1, p1, q1, hvs1, rfl, rfl, h1, r1⟩ := trodAll_cons r0
  obtain ⟨hvsn, rfl, rfl⟩ := trodAll_nil r1
  simp only [hvsn, hvs1] at hargs
  obtain rfl : args = #[v0, v1] := by cases args; simp_all
  obtain ⟨rfl, rfl⟩ := trodVars_none hV
  clear hA0
  obtain ⟨p0a, cap0, l0, rfl, i0, f0, e0⟩ := Go.Proofs.Ytfkfffcbhjmekaa.Cidr.open_prefixes (hval 0 22 v0 rfl rfl) h0 (fun x hx => hlt x (by simp [hx]))
  obtain ⟨p1a, cap1, l1, rfl, i1, f1, e1⟩ := Go.Proofs.Ytfkfffcbhjmekaa.Cidr.open_prefixes (hval 1 22 v1 rfl rfl) h1 (fun x hx => hlt x (by simp [hx]))
  exact law_post 4 laid reads rfl Try.underlying4 rfl hW' ⟨rfl, rfl, rfl⟩ (law_any p0a cap0 l0 p1a cap1 l1 W i0 i1)

set_option maxRecDepth 100000 in
theorem lifted (os : Os) (started : os.Started) (H : Type) (enc : TypeId × Value → H) :
    ReturnsInHanded {} Try.checked os 6 .any (Rows.cidrManySpec.pre6 enc Try.prog Try.f6 Rows.cidrManyRow.domain false) (Rows.cidrManySpec.post enc Try.prog Try.f6 false true false false) := by
  refine returnsInHanded_of_change (C := Try.checked) own started (by kernel_rfl) Try.func6
    (ChangeSpec.witness6 (enc := enc) (C := Try.checked) false ⟨#[], #[.slice none 0 0, .slice none 0 0], []⟩ 8 (by kernel_rfl) (by kernel_rfl) (by kernel_rfl) (by kernel_rfl)) ?_
  intro W base args ds gs before hval hW _ _
  exact contract H enc W base args ds gs before hval hW

theorem proved : Rows.CidrManySaid :=
  OpenClaim.holds_of_wide 6 Try.f6 rfl rfl rfl rfl rfl rfl rfl ⟨rfl, rfl, rfl, rfl, rfl⟩ rfl rfl rfl rfl rfl (by kernel_rfl) Try.func6 (by kernel_rfl)
    (of_decide_eq_true (by kernel_rfl)) (by unfold Func.isWrapper; first | (rw [if_pos (by decide +kernel)]; kernel_rfl) | (rw [if_neg (by decide +kernel)]; exact ⟨rfl, rfl⟩))
    (fun os started H enc _ => lifted os started H enc)

end Go.Proofs.Ytfkfffcbhjmekaa.cidrManyP
