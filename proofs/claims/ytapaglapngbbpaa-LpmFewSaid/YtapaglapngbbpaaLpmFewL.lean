/- LpmFew: routes of one hop may be made fewer: with the fewest prefixes of the same addresses each one goes where it went: for every input. -/
import Derived.Test.YtapaglapngbbpaaPuts
import Derived.Test.YtapaglapngbbpaaLpmLaw
namespace Go.Proofs.Ytapaglapngbbpaa.LpmFewL
open Go.ChangeShapes Go.WideShapes Go.ChangeAt Go.RowKit Go.Sort Go.Proofs.Ytapaglapngbbpaa.Kit Go.Proofs.Ytapaglapngbbpaa.App Go.Proofs.Ytapaglapngbbpaa.Cells Go.Proofs.Ytapaglapngbbpaa.Cidr Go.Proofs.Ytapaglapngbbpaa.CidrMath Go.Proofs.Ytapaglapngbbpaa.RouteMath Go.Proofs.Ytapaglapngbbpaa.Route Go.Proofs.Ytapaglapngbbpaa.Lpm
set_option linter.unusedVariables false
set_option maxRecDepth 20000

set_option maxHeartbeats 4000000 in
theorem core (p : Option Addr) (cap n : Nat) (l : List Pfx) (h a : Int) (w : World) (hn : n = l.length) (hC : CI lay w p cap l) :
    Calls Try.prog 4 #[.slice p n cap, .int .i64 h, .int .i64 a] w fun e w' => e = .returned (.bool true) ∧ Below w.heap.size w w' := by
  have F := Lib.hid (fun W => fact_any W)
  have HC := Lib.hid hC
  have HN := Lib.hid hn
  by_cases hw : wrong l = 0
  · have FW := Lib.hid (fun W (h : CI lay W p cap l) => fewest_good p cap n l W hn h hw)
    have HW := Lib.hid ((wrong_zero l).1 hw)
    have hn32 : n ≤ 32 := by rw [hn]; exact HW.out.1
    clear hn hC hw
    go_enter Try.func4, Try.ntmps4
    go_wp2_with fail
    refine (F.out _).mono ?_; rintro e w1 ⟨rfl, hB1⟩
    clear F
    go_wp2_with fail
    refine (FW.out w1 (HC.out.below (hB1.mono (Nat.le_refl _)))).mono ?_; rintro e w2 ⟨v, rfl, hO2, hb2⟩
    obtain ⟨pf, cf, rfl, hCF⟩ := OC.form hO2
    have hB2 := bcall hB1 hb2
    have CF := Lib.hid hCF
    have CL := Lib.hid (HC.out.below (hB2.mono (Nat.le_refl _)))
    obtain ⟨m, hm⟩ : ∃ m, (few0 l).length = m := ⟨_, rfl⟩
    rw [hm]
    have HM := Lib.hid hm
    have hm32 : m ≤ 32 := by rw [← hm]; exact Nat.le_trans (few0_len l HW.out.2) HW.out.1
    clear hm hCF hO2 hb2 hB1 FW HC
    by_cases hh : 0 ≤ h ∧ h ≤ 9
    · go_wp2_with fail
      refine (in_any h 0 9 w2 true (by rw [decide_eq_true hh.1, decide_eq_true hh.2]; rfl)).mono ?_; rintro e w2 ⟨rfl, rfl⟩
      go_wp2_with fail
      refine (new_any w2).mono ?_; rintro e w3 ⟨rfl, hT3, hb3⟩
      obtain ⟨ga, hga⟩ : ∃ ga, w2.heap.size = ga := ⟨_, rfl⟩
      have HGA := Lib.hid hga
      go_wp2_with fail
      refine (new_any w3).mono ?_; rintro e w4 ⟨rfl, hT4, hb4⟩
      obtain ⟨gb, hgb⟩ : ∃ gb, w3.heap.size = gb := ⟨_, rfl⟩
      have hB4 := bcall hb3 hb4
      have hlt := hT3.lt
      have HTA0 := Lib.hid (hT3.below hb4 hlt)
      have HTB0 := Lib.hid hT4
      rw [hga] at HTA0 hlt
      rw [hgb] at HTB0 hlt
      have HGE : w2.heap.size ≤ ga := Nat.le_of_eq hga
      have HGF : w2.heap.size ≤ gb := by omega
      have hne : gb ≠ ga := by omega
      have hne2 : ga ≠ gb := by omega
      clear hT3 hT4 hb3 hb4
      try rw [hga]
      try rw [hgb]
      clear hga hgb
      go_wp2_with fail
      go_loopw [12] (fun iv wr => ∃ k : Nat, k ≤ n ∧ iv = .int .i64 (k : Int) ∧ Hid (Tab wr ga (puts (l.take k) h)) ∧ Hid (Tab wr gb ([])) ∧ Below w2.heap.size w2 wr) (fun i _ => n - (intOf i).toNat)
      case atStart => exact ⟨0, Nat.zero_le _, rfl, HTA0, HTB0, hB4⟩
      case round =>
        obtain ⟨k, hk, rfl, HT, HO, hB⟩ := hrel
        by_cases hkn : k < n
        · have t1 : decide ((k : Int) < (n : Int)) = true := decide_eq_true (by omega)
          have hw1 : IntKind.i64.wrap ((k : Int) + 1) = ((k + 1 : Nat) : Int) := by rw [IntKind.wrap_i64]; omega
          obtain ⟨⟨xa, xb⟩, hx⟩ : ∃ x, l[k]? = some x := ⟨_, List.getElem?_eq_getElem (by have := HN.out; omega)⟩
          obtain ⟨bb, off, rfl, hbb, hc⟩ := CL.out.2.2 (by have := HN.out; omega)
          have e0 : wr.cell? ⟨bb, off + k * 2, none⟩ = some (.int .i64 xa) := (hB.cell (p := ⟨bb, off + k * 2, none⟩) hbb).trans (hc k _ hx 0 _ rfl)
          have e1 : wr.cell? ⟨bb, off + k * 2 + 1, none⟩ = some (.int .i64 xb) := (hB.cell (p := ⟨bb, off + k * 2 + 1, none⟩) hbb).trans (hc k _ hx 1 _ rfl)
          obtain ⟨s1, s2, s3⟩ := puts_step l h hh HW.out.2 HW.out.1 k _ hx
          have SC := Lib.hid (set_any ga (puts (l.take k) h) ⟨xa, xb, h⟩ wr HT.out s3)
          rw [s1, s2, er_0] at SC
          simp only at SC
          clear hx hc s1 s2 s3
          go_wp2_with fail
          refine SC.out.mono ?_; rintro e w5 ⟨rfl, hT5, hg5⟩
          have hB5 := bgrown hB (Nat.le_refl _) hg5 HGE
          have HT5 := Lib.hid hT5
          have HO5 := Lib.hid (HO.out.grown hg5 (fun e => by have := Option.some.inj e; omega))
          clear hg5 hT5 SC e0 e1 HT HO hB
          go_wp2_with fail
          go_roundw
          case rel => exact ⟨k + 1, by omega, rfl, HT5, HO5, hB5⟩
          case measure => simp [intOf]; omega
        · obtain rfl : k = n := by omega
          have t1 : decide ((k : Int) < (k : Int)) = false := decide_eq_false (by omega)
          rw [List.take_of_length_le (by have := HN.out; omega)] at HT
          have HTA := HT
          have HT3 := HO
          have hB3 := hB
          clear HT HO hB
          go_wp2_with fail
          go_loopw [13] (fun iv wr => ∃ k : Nat, k ≤ m ∧ iv = .int .i64 (k : Int) ∧ Hid (Tab wr gb (puts ((few0 l).take k) h)) ∧ Hid (Tab wr ga (puts l h)) ∧ Below w2.heap.size w2 wr) (fun i _ => m - (intOf i).toNat)
          case atStart => exact ⟨0, Nat.zero_le _, rfl, HT3, HTA, hB3⟩
          case round =>
            obtain ⟨k, hk, rfl, HT, HO, hB⟩ := hrel
            by_cases hkn : k < m
            · have t1 : decide ((k : Int) < (m : Int)) = true := decide_eq_true (by omega)
              have hw1 : IntKind.i64.wrap ((k : Int) + 1) = ((k + 1 : Nat) : Int) := by rw [IntKind.wrap_i64]; omega
              obtain ⟨⟨xa, xb⟩, hx⟩ : ∃ x, (few0 l)[k]? = some x := ⟨_, List.getElem?_eq_getElem (by have := HM.out; omega)⟩
              obtain ⟨bb, off, rfl, hbb, hc⟩ := CF.out.2.2 (by have := HM.out; omega)
              have e0 : wr.cell? ⟨bb, off + k * 2, none⟩ = some (.int .i64 xa) := (hB.cell (p := ⟨bb, off + k * 2, none⟩) hbb).trans (hc k _ hx 0 _ rfl)
              have e1 : wr.cell? ⟨bb, off + k * 2 + 1, none⟩ = some (.int .i64 xb) := (hB.cell (p := ⟨bb, off + k * 2 + 1, none⟩) hbb).trans (hc k _ hx 1 _ rfl)
              obtain ⟨s1, s2, s3⟩ := puts_step (few0 l) h hh (few0_good l) (Nat.le_trans (few0_len l HW.out.2) HW.out.1) k _ hx
              have SC := Lib.hid (set_any gb (puts ((few0 l).take k) h) ⟨xa, xb, h⟩ wr HT.out s3)
              rw [s1, s2, er_0] at SC
              simp only at SC
              clear hx hc s1 s2 s3
              go_wp2_with fail
              refine SC.out.mono ?_; rintro e w5 ⟨rfl, hT5, hg5⟩
              have hB5 := bgrown hB (Nat.le_refl _) hg5 HGF
              have HT5 := Lib.hid hT5
              have HO5 := Lib.hid (HO.out.grown hg5 (fun e => by have := Option.some.inj e; omega))
              clear hg5 hT5 SC e0 e1 HT HO hB
              go_wp2_with fail
              go_roundw
              case rel => exact ⟨k + 1, by omega, rfl, HT5, HO5, hB5⟩
              case measure => simp [intOf]; omega
            · obtain rfl : k = m := by omega
              have t1 : decide ((k : Int) < (k : Int)) = false := decide_eq_false (by omega)
              rw [List.take_of_length_le (by have := HM.out; omega)] at HT
              have HA := Lib.hid (puts_all l h hh HW.out.2 HW.out.1)
              have HB := Lib.hid (puts_all (few0 l) h hh (few0_good l) (Nat.le_trans (few0_len l HW.out.2) HW.out.1))
              obtain ⟨q1, q2⟩ := find_same HA.out HB.out (fun z => few0_cov l HW.out.2 z) a
              have FA := Lib.hid (find_all ga a (puts l h) wr HO.out HA.out.gt)
              have FB := Lib.hid (fun W hT => find_all gb a (puts (few0 l) h) W hT HB.out.gt)
              rw [← q1, ← q2] at FB
              clear q1 q2 HA HB
              generalize foundH (fnd (puts l h) a) = h1 at FA FB
              generalize foundL (fnd (puts l h) a) = m1 at FA
              generalize foundL (fnd (puts (few0 l) h) a) = m2 at FB
              have hBr := bcall hB2 hB
              cases he : decide (fndE (puts l h) a = 0) with
              | true =>
                rw [of_decide_eq_true he, er_0] at FA FB
                clear he
                go_wp2_with fail
                refine FA.out.mono ?_; rintro e w5 ⟨rfl, hb5⟩
                have hB5 := bcall hBr hb5
                have HT5 := Lib.hid (HT.out.below hb5 HT.out.lt)
                clear hb5 FA
                go_wp2_with fail
                refine (FB.out w5 HT5.out).mono ?_; rintro e w6 ⟨rfl, hb6⟩
                have hB6 := bcall hB5 hb6
                clear hb6 FB HT5
                go_wp2_with fail
                go_quiet (fail)
                go_wp2_with fail
                go_ret
                exact ⟨rfl, below_drewN hB6 _⟩
              | false =>
                rw [er_ne (of_decide_eq_false he)] at FA FB
                clear he
                go_wp2_with fail
                refine FA.out.mono ?_; rintro e w5 ⟨rfl, hb5⟩
                have hB5 := bcall hBr hb5
                have HT5 := Lib.hid (HT.out.below hb5 HT.out.lt)
                clear hb5 FA
                go_wp2_with fail
                refine (FB.out w5 HT5.out).mono ?_; rintro e w6 ⟨rfl, hb6⟩
                have hB6 := bcall hB5 hb6
                clear hb6 FB HT5
                go_wp2_with fail
                go_quiet (fail)
                go_wp2_with fail
                go_ret
                exact ⟨rfl, below_drewN hB6 _⟩
    · go_wp2_with fail
      refine (in_any h 0 9 w2 false (by by_cases h0 : 0 ≤ h <;> simp [h0]; omega)).mono ?_; rintro e w2 ⟨rfl, rfl⟩
      go_wp2_with fail
      go_ret
      exact ⟨rfl, hB2⟩
  · have FW := Lib.hid (fun W (h : CI lay W p cap l) => fewest_bad p cap n l W hn h _ rfl hw)
    clear hn hC hw
    go_enter Try.func4, Try.ntmps4
    go_wp2_with fail
    refine (F.out _).mono ?_; rintro e w1 ⟨rfl, hB1⟩
    clear F
    go_wp2_with fail
    refine (FW.out w1 (HC.out.below (hB1.mono (Nat.le_refl _)))).mono ?_; rintro e w2 ⟨rfl, hb2⟩
    have hB2 := bcall hB1 hb2
    go_wp2_with fail
    go_ret
    exact ⟨rfl, hB2⟩

theorem reads : Try.f4.params.toList.all (fun t => Try.prog.readableRec t && decide (t < Try.prog.types.size)) = true := by kernel_rfl

theorem contract (H : Type) (enc : TypeId × Value → H) (W : World) (base : Nat) (args : Array Value) (ds gs : List (DataW H)) (before : List MemPlace)
    (hval : ∀ (j : Nat) t v, Try.f4.params[j]? = some t → args[j]? = some v → Value.okWide Try.prog W .any base t v)
    (hW : DataW.Whole enc Try.prog Try.f4.params.toList Rows.lpmFewSpec.vars false W args.toList ds gs before) :
    Calls Try.prog 4 args W fun e W' => ∃ v, e = .returned v ∧ Rows.lpmFewSpec.post enc Try.prog Try.f4 false true false false W args v W' := by
  have hW' := hW
  obtain ⟨p, q, hA0, hV, rfl, hfz, hnd⟩ := hW
  have hA : DataW.TrodAll enc Try.prog W 0 (fun _ => true) true Try.f4.params.toList args.toList ds p := hA0
  have hlt := hA.lt
  rw [Try.params4] at hA hval
  obtain ⟨v0, vs0, d0, ds0, p0, q0, hargs, rfl, rfl, h0, r0⟩ := trodAll_cons hA
  obtain ⟨v1, vs1, d1, ds1, p1, q1, hvs1, rfl, rfl, h1, r1⟩ := trodAll_cons r0
  obtain ⟨v2, vs2, d2, ds2, p2, q2, hvs2, rfl, rfl, h2, r2⟩ := trodAll_cons r1
  obtain ⟨hvsn, rfl, rfl⟩ := trodAll_nil r2
  simp only [hvsn, hvs2, hvs1] at hargs
  obtain rfl : args = #[v0, v1, v2] := by cases args; simp_all
  obtain ⟨rfl, rfl⟩ := trodVars_none hV
  clear hA0
  obtain ⟨p0a, cap0, l0, rfl, i0, f0, e0⟩ := Go.Proofs.Ytapaglapngbbpaa.Cidr.open_prefixes (hval 0 38 v0 rfl rfl) h0 (fun x hx => hlt x (by simp [hx]))
  obtain ⟨a1, rfl, rfl, rfl, w1⟩ := open_int Try.underlying3 (hval 1 3 v1 rfl rfl) h1
  have b1 := bounds_int w1
  obtain ⟨a2, rfl, rfl, rfl, w2⟩ := open_int Try.underlying3 (hval 2 3 v2 rfl rfl) h2
  have b2 := bounds_int w2
  exact law_post 4 laid reads rfl Try.underlying4 rfl hW' ⟨rfl, rfl, rfl⟩ (core _ _ _ l0 a1 a2 W rfl i0)

set_option maxRecDepth 100000 in
theorem lifted (os : Os) (started : os.Started) (H : Type) (enc : TypeId × Value → H) :
    ReturnsInHanded {} Try.checked os 4 .any (Rows.lpmFewSpec.pre6 enc Try.prog Try.f4 Rows.lpmFewRow.domain false) (Rows.lpmFewSpec.post enc Try.prog Try.f4 false true false false) := by
  refine returnsInHanded_of_change (C := Try.checked) own started (by kernel_rfl) Try.func4
    (ChangeSpec.witness6 (enc := enc) (C := Try.checked) false ⟨#[], #[.slice none 0 0, .int .i64 0, .int .i64 0], []⟩ 8 (by kernel_rfl) (by kernel_rfl) (by kernel_rfl) (by kernel_rfl)) ?_
  intro W base args ds gs before hval hW _ _
  exact contract H enc W base args ds gs before hval hW

theorem proved : Rows.LpmFewSaid :=
  OpenClaim.holds_of_wide 4 Try.f4 rfl rfl rfl rfl rfl rfl rfl ⟨rfl, rfl, rfl, rfl, rfl⟩ rfl rfl rfl rfl rfl (by kernel_rfl) Try.func4 (by kernel_rfl)
    (of_decide_eq_true (by kernel_rfl)) (by unfold Func.isWrapper; first | (rw [if_pos (by decide +kernel)]; kernel_rfl) | (rw [if_neg (by decide +kernel)]; exact ⟨rfl, rfl⟩))
    (fun os started H enc _ => lifted os started H enc)
end Go.Proofs.Ytapaglapngbbpaa.LpmFewL
