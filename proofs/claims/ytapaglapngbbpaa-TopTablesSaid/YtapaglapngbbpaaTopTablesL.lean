/- TopTables: where all hops are one the fewest prefixes tell the same of each address as all do: for every input. -/
import Derived.Test.YtapaglapngbbpaaPuts
import Derived.Test.YtapaglapngbbpaaLpmLaw
namespace Go.Proofs.Ytapaglapngbbpaa.TopTablesL
open Go.ChangeShapes Go.WideShapes Go.ChangeAt Go.RowKit Go.Sort Go.Proofs.Ytapaglapngbbpaa.Kit Go.Proofs.Ytapaglapngbbpaa.App Go.Proofs.Ytapaglapngbbpaa.Cells Go.Proofs.Ytapaglapngbbpaa.Cidr Go.Proofs.Ytapaglapngbbpaa.CidrMath Go.Proofs.Ytapaglapngbbpaa.RouteMath Go.Proofs.Ytapaglapngbbpaa.Route Go.Proofs.Ytapaglapngbbpaa.Lpm
set_option linter.unusedVariables false
set_option maxRecDepth 20000

theorem tin_any (n a b : Int) (w : World) (R : Bool) (hR : R = (decide (a ≤ n) && decide (n ≤ b))) : Calls Try.prog 14 #[.int .i64 n, .int .i64 a, .int .i64 b] w fun e w' => e = .returned (.bool R) ∧ w' = w := by
  subst hR
  by_cases h1 : a ≤ n
  · have t1 : decide (a ≤ n) = true := decide_eq_true h1
    go_enter Try.func14, Try.ntmps14
    go_wp2_with fail
    go_ret
    exact ⟨by rw [t1]; simp, rfl⟩
  · have t1 : decide (a ≤ n) = false := decide_eq_false h1
    go_enter Try.func14, Try.ntmps14
    go_wp2_with fail
    go_ret
    exact ⟨rfl, rfl⟩
def lit4 : List Pfx := [⟨4, 16⟩]
theorem good4 : ∀ x ∈ lit4, CidrMath.Good x := fun x hx => by
  simp only [lit4, List.mem_cons, List.not_mem_nil, or_false] at hx
  rw [hx]; exact (good_iff _).1 (by decide)
theorem few4 : few0 lit4 = lit4 := few0_one lit4 ⟨4, 16⟩ good4 ((good_iff _).1 (by decide)) fun y => cov_one _ _
theorem cov_take (l : List Pfx) (k : Nat) (x : Pfx) (hx : l[k]? = some x) (z : Nat) (b B c : Bool) (hb : b = true ↔ cov (l.take k) z) (hB : B = true ↔ has x z) (hc : c = (b || B)) : c = true ↔ cov (l.take (k + 1)) z := by
  rw [hc, Bool.or_eq_true, hb, hB, List.take_add_one, hx, cov_append]
  show _ ↔ _ ∨ cov [x] z
  rw [cov_one]
set_option maxHeartbeats 4000000 in
theorem core (p : Option Addr) (cap n : Nat) (l : List Pfx) (a : Int) (w : World) (hn : n = l.length) (hC : CI lay w p cap l) :
    Calls Try.prog 5 #[.slice p n cap, .int .i64 a] w fun e w' => e = .returned (.bool true) ∧ Below w.heap.size w w' := by
  have s1 := fun W : World => fewest_good (some ⟨W.heap.size, 0, none⟩) 1 1 lit4 _ rfl (lit_pfx W lit4 24 (by decide)) ((wrong_zero lit4).2 ⟨by decide, good4⟩)
  rw [few4] at s1
  have hall : lay.all lit4 = [.int .i64 4, .int .i64 16] := rfl
  rw [hall] at s1
  have S1 := Lib.hid s1
  have H4 := Lib.hid (show lit4[0]? = some ⟨4, 16⟩ from rfl)
  have H41 := Lib.hid (show lit4.length = 1 from rfl)
  clear s1 hall
  generalize lit4 = l4 at S1 H4 H41
  have HC := Lib.hid hC
  have HN := Lib.hid hn
  by_cases hw : wrong l = 0
  · have FW := Lib.hid (fun W (h : CI lay W p cap l) => fewest_good p cap n l W hn h hw)
    have HW := Lib.hid ((wrong_zero l).1 hw)
    have hn32 : n ≤ 32 := by rw [hn]; exact HW.out.1
    clear hn hC hw
    go_enter Try.func5, Try.ntmps5
    go_wp2_with fail
    refine (S1.out _).mono ?_; rintro e w1 ⟨v, rfl, hown, hb1⟩
    have hB1 : Below w.heap.size w w1 := bcall (balloc (brefl w) _) hb1
    obtain ⟨p1, c1, rfl, hCI⟩ := hown.form
    obtain ⟨bb, off, rfl, hbb, hc⟩ := hCI.2.2 (by rw [H41.out]; decide)
    have e0 : w1.cell? ⟨bb, off, none⟩ = some (.int .i64 4) := by
      have := hc 0 _ H4.out 0 _ rfl
      simpa using this
    rw [H41.out]
    clear hown hCI hc hbb hb1 S1
    go_wp2_with fail
    refine (FW.out w1 (HC.out.below (hB1.mono (Nat.le_refl _)))).mono ?_; rintro e w2 ⟨v, rfl, hO2, hb2⟩
    obtain ⟨pf, cf, rfl, hCF⟩ := OC.form hO2
    have hB2 := bcall hB1 hb2
    have CF := Lib.hid hCF
    have CL := Lib.hid (HC.out.below (hB2.mono (Nat.le_refl _)))
    obtain ⟨m, hm⟩ : ∃ m, (few0 l).length = m := ⟨_, rfl⟩
    rw [hm]
    have HM := Lib.hid hm
    have hm32 : m ≤ 32 := by rw [← hm]; exact Nat.le_trans (few0_len l HW.out.2) HW.out.1
    clear hm hCF hO2 hb2 hB1 FW HC e0
    by_cases ha : 0 ≤ a ∧ a ≤ 65535
    · obtain ⟨z, rfl⟩ : ∃ z : Nat, a = (z : Int) := ⟨a.toNat, by omega⟩
      go_wp2_with fail
      refine (tin_any (z : Int) 0 65535 w2 true (by rw [decide_eq_true ha.1, decide_eq_true ha.2]; rfl)).mono ?_; rintro e w2 ⟨rfl, rfl⟩
      go_wp2_with fail
      refine (new_any w2).mono ?_; rintro e w4 ⟨rfl, hT4, hB4⟩
      obtain ⟨ga, hga⟩ : ∃ ga, w2.heap.size = ga := ⟨_, rfl⟩
      have HTA0 := Lib.hid hT4
      rw [hga] at HTA0
      have HGE : w2.heap.size ≤ ga := Nat.le_of_eq hga
      clear hT4
      go_wp2_with fail
      go_loopw [10] (fun iv wr => ∃ k : Nat, k ≤ m ∧ iv = .int .i64 (k : Int) ∧ Hid (Tab wr ga (puts ((few0 l).take k) 1)) ∧ Below w2.heap.size w2 wr) (fun i _ => m - (intOf i).toNat)
      case atStart => exact ⟨0, Nat.zero_le _, rfl, HTA0, hB4⟩
      case round =>
        obtain ⟨k, hk, rfl, HT, hB⟩ := hrel
        by_cases hkn : k < m
        · have t1 : decide ((k : Int) < (m : Int)) = true := decide_eq_true (by omega)
          have hw1 : IntKind.i64.wrap ((k : Int) + 1) = ((k + 1 : Nat) : Int) := by rw [IntKind.wrap_i64]; omega
          obtain ⟨⟨xa, xb⟩, hx⟩ : ∃ x, (few0 l)[k]? = some x := ⟨_, List.getElem?_eq_getElem (by have := HM.out; omega)⟩
          obtain ⟨bb, off, rfl, hbb, hc⟩ := CF.out.2.2 (by have := HM.out; omega)
          have e0 : wr.cell? ⟨bb, off + k * 2, none⟩ = some (.int .i64 xa) := (hB.cell (p := ⟨bb, off + k * 2, none⟩) hbb).trans (hc k _ hx 0 _ rfl)
          have e1 : wr.cell? ⟨bb, off + k * 2 + 1, none⟩ = some (.int .i64 xb) := (hB.cell (p := ⟨bb, off + k * 2 + 1, none⟩) hbb).trans (hc k _ hx 1 _ rfl)
          obtain ⟨s1, s2, s3⟩ := puts_step (few0 l) 1 (by decide) (few0_good l) (Nat.le_trans (few0_len l HW.out.2) HW.out.1) k _ hx
          have SC := Lib.hid (set_any ga (puts ((few0 l).take k) 1) ⟨xa, xb, 1⟩ wr HT.out s3)
          rw [s1, s2, er_0] at SC
          simp only at SC
          clear hx hc s1 s2 s3
          go_wp2_with fail
          refine SC.out.mono ?_; rintro e w5 ⟨rfl, hT5, hg5⟩
          have hB5 := bgrown hB (Nat.le_refl _) hg5 HGE
          have HT5 := Lib.hid hT5
          clear hg5 hT5 SC e0 e1 HT hB
          go_wp2_with fail
          go_roundw
          case rel => exact ⟨k + 1, by omega, rfl, HT5, hB5⟩
          case measure => simp [intOf]; omega
        · obtain rfl : k = m := by omega
          have t1 : decide ((k : Int) < (k : Int)) = false := decide_eq_false (by omega)
          rw [List.take_of_length_le (by have := HM.out; omega)] at HT
          have HP := Lib.hid (puts_all (few0 l) 1 (by decide) (few0_good l) (Nat.le_trans (few0_len l HW.out.2) HW.out.1))
          have FA := Lib.hid (find_all ga (z : Int) (puts (few0 l) 1) wr HT.out HP.out.gt)
          have hBr := bcall hB2 hB
          obtain ⟨E, hE⟩ : ∃ E, fndE (puts (few0 l) 1) (z : Int) = E := ⟨_, rfl⟩
          have HE := Lib.hid (show E = 0 ↔ cov l z from by
            rw [← hE]
            unfold fndE
            rw [if_pos (by omega), Int.toNat_natCast]
            rcases HP.out.find z with ⟨h1, e1⟩ | ⟨h1, x, e1, _⟩
            · rw [e1, few0_cov l HW.out.2 z] at *
              exact ⟨fun h => by simp [foundE] at h, fun h => absurd h h1⟩
            · rw [e1, few0_cov l HW.out.2 z] at *
              exact ⟨fun _ => h1, fun _ => rfl⟩)
          rw [hE] at FA
          generalize foundH (fnd (puts (few0 l) 1) (z : Int)) = h1 at FA
          generalize foundL (fnd (puts (few0 l) 1) (z : Int)) = m1 at FA
          clear hE HP
          cases he : decide (E = 0) with
          | true =>
            have HEB := Lib.hid (show true = true ↔ cov l z from ⟨fun _ => HE.out.1 (of_decide_eq_true he), fun _ => rfl⟩)
            rw [of_decide_eq_true he, er_0] at FA
            clear he HE
            go_wp2_with fail
            refine FA.out.mono ?_; rintro e w5 ⟨rfl, hb5⟩
            have hB5 := bcall hBr hb5
            have CL5 := Lib.hid (show CI lay w5 p cap l from CL.out.below (hB.trans (hb5.mono hB.size)))
            clear hb5 FA HT hB
            go_wp2_with fail
            go_loopw [11, 12] (fun iv kv wr => ∃ k : Nat, k ≤ n ∧ kv = .int .i64 (k : Int) ∧ ∃ b : Bool, iv = .bool b ∧ Hid (b = true ↔ cov (l.take k) z) ∧ Below w5.heap.size w5 wr) (fun _ i _ => n - (intOf i).toNat)
            case atStart => exact ⟨0, Nat.zero_le _, rfl, false, rfl, Lib.hid ⟨fun h => by simp at h, fun h => absurd h (by rw [List.take_zero]; exact cov_nil z)⟩, brefl w5⟩
            case round =>
              obtain ⟨k, hk, rfl, b, rfl, Hb, hB⟩ := hrel
              by_cases hkn : k < n
              · have t1 : decide ((k : Int) < (n : Int)) = true := decide_eq_true (by omega)
                have hw1 : IntKind.i64.wrap ((k : Int) + 1) = ((k + 1 : Nat) : Int) := by rw [IntKind.wrap_i64]; omega
                obtain ⟨⟨xa, xb⟩, hx⟩ : ∃ x, l[k]? = some x := ⟨_, List.getElem?_eq_getElem (by have := HN.out; omega)⟩
                obtain ⟨bb, off, rfl, hbb, hc⟩ := CL5.out.2.2 (by have := HN.out; omega)
                have e0 : wr.cell? ⟨bb, off + k * 2, none⟩ = some (.int .i64 xa) := (hB.cell (p := ⟨bb, off + k * 2, none⟩) hbb).trans (hc k _ hx 0 _ rfl)
                have e1 : wr.cell? ⟨bb, off + k * 2 + 1, none⟩ = some (.int .i64 xb) := (hB.cell (p := ⟨bb, off + k * 2 + 1, none⟩) hbb).trans (hc k _ hx 1 _ rfl)
                obtain ⟨B, hBv⟩ : ∃ B : Bool, B = decide (has ⟨xa, xb⟩ z) := ⟨_, rfl⟩
                have hBz : B = true ↔ has ⟨xa, xb⟩ z := by rw [hBv]; exact decide_eq_true_iff
                have HAS := Lib.hid (has_good ⟨xa, xb⟩ (z : Int) wr (HW.out.2 _ (List.mem_of_getElem? hx)) ⟨by omega, by omega⟩ B hBz)
                unfold Cidr.val at HAS
                simp only at HAS
                obtain ⟨c, hcc⟩ : ∃ c, c = (b || B) := ⟨_, rfl⟩
                have HC2 := Lib.hid (cov_take l k _ hx z b B c Hb.out hBz hcc)
                clear hx hc hBv hBz Hb
                cases b with
                | true =>
                  rw [Bool.true_or] at hcc
                  subst hcc
                  go_wp2_with fail
                  refine HAS.out.mono ?_; rintro e w6 ⟨rfl, hg6⟩
                  have hB6 := lgr hB hB.size hg6
                  clear hg6 HAS e0 e1 hB
                  go_wp2_with fail
                  go_roundw
                  case rel => exact ⟨k + 1, by omega, rfl, true, rfl, Lib.hid (by simpa using HC2.out), hB6⟩
                  case measure => simp [intOf]; omega
                | false =>
                  rw [Bool.false_or] at hcc
                  subst hcc
                  go_wp2_with fail
                  refine HAS.out.mono ?_; rintro e w6 ⟨rfl, hg6⟩
                  have hB6 := lgr hB hB.size hg6
                  clear hg6 HAS e0 e1 hB
                  go_wp2_with fail
                  go_roundw
                  case rel => exact ⟨k + 1, by omega, rfl, c, rfl, HC2, hB6⟩
                  case measure => simp [intOf]; omega
              · obtain rfl : k = n := by omega
                have t1 : decide ((k : Int) < (k : Int)) = false := decide_eq_false (by omega)
                rw [List.take_of_length_le (by have := HN.out; omega)] at Hb
                obtain rfl : b = true := Hb.out.2 (by simpa using HEB.out)
                have hBf := bcall hB5 hB
                go_wp2_with fail
                go_ret
                exact ⟨rfl, hBf⟩
          | false =>
            have HEB := Lib.hid (show false = true ↔ cov l z from ⟨fun h => by simp at h, fun h => absurd (HE.out.2 h) (of_decide_eq_false he)⟩)
            rw [er_ne (of_decide_eq_false he)] at FA
            clear he HE
            go_wp2_with fail
            refine FA.out.mono ?_; rintro e w5 ⟨rfl, hb5⟩
            have hB5 := bcall hBr hb5
            have CL5 := Lib.hid (show CI lay w5 p cap l from CL.out.below (hB.trans (hb5.mono hB.size)))
            clear hb5 FA HT hB
            go_wp2_with fail
            go_loopw [11, 12] (fun iv kv wr => ∃ k : Nat, k ≤ n ∧ kv = .int .i64 (k : Int) ∧ ∃ b : Bool, iv = .bool b ∧ Hid (b = true ↔ cov (l.take k) z) ∧ Below w5.heap.size w5 wr) (fun _ i _ => n - (intOf i).toNat)
            case atStart => exact ⟨0, Nat.zero_le _, rfl, false, rfl, Lib.hid ⟨fun h => by simp at h, fun h => absurd h (by rw [List.take_zero]; exact cov_nil z)⟩, brefl w5⟩
            case round =>
              obtain ⟨k, hk, rfl, b, rfl, Hb, hB⟩ := hrel
              by_cases hkn : k < n
              · have t1 : decide ((k : Int) < (n : Int)) = true := decide_eq_true (by omega)
                have hw1 : IntKind.i64.wrap ((k : Int) + 1) = ((k + 1 : Nat) : Int) := by rw [IntKind.wrap_i64]; omega
                obtain ⟨⟨xa, xb⟩, hx⟩ : ∃ x, l[k]? = some x := ⟨_, List.getElem?_eq_getElem (by have := HN.out; omega)⟩
                obtain ⟨bb, off, rfl, hbb, hc⟩ := CL5.out.2.2 (by have := HN.out; omega)
                have e0 : wr.cell? ⟨bb, off + k * 2, none⟩ = some (.int .i64 xa) := (hB.cell (p := ⟨bb, off + k * 2, none⟩) hbb).trans (hc k _ hx 0 _ rfl)
                have e1 : wr.cell? ⟨bb, off + k * 2 + 1, none⟩ = some (.int .i64 xb) := (hB.cell (p := ⟨bb, off + k * 2 + 1, none⟩) hbb).trans (hc k _ hx 1 _ rfl)
                obtain ⟨B, hBv⟩ : ∃ B : Bool, B = decide (has ⟨xa, xb⟩ z) := ⟨_, rfl⟩
                have hBz : B = true ↔ has ⟨xa, xb⟩ z := by rw [hBv]; exact decide_eq_true_iff
                have HAS := Lib.hid (has_good ⟨xa, xb⟩ (z : Int) wr (HW.out.2 _ (List.mem_of_getElem? hx)) ⟨by omega, by omega⟩ B hBz)
                unfold Cidr.val at HAS
                simp only at HAS
                obtain ⟨c, hcc⟩ : ∃ c, c = (b || B) := ⟨_, rfl⟩
                have HC2 := Lib.hid (cov_take l k _ hx z b B c Hb.out hBz hcc)
                clear hx hc hBv hBz Hb
                cases b with
                | true =>
                  rw [Bool.true_or] at hcc
                  subst hcc
                  go_wp2_with fail
                  refine HAS.out.mono ?_; rintro e w6 ⟨rfl, hg6⟩
                  have hB6 := lgr hB hB.size hg6
                  clear hg6 HAS e0 e1 hB
                  go_wp2_with fail
                  go_roundw
                  case rel => exact ⟨k + 1, by omega, rfl, true, rfl, Lib.hid (by simpa using HC2.out), hB6⟩
                  case measure => simp [intOf]; omega
                | false =>
                  rw [Bool.false_or] at hcc
                  subst hcc
                  go_wp2_with fail
                  refine HAS.out.mono ?_; rintro e w6 ⟨rfl, hg6⟩
                  have hB6 := lgr hB hB.size hg6
                  clear hg6 HAS e0 e1 hB
                  go_wp2_with fail
                  go_roundw
                  case rel => exact ⟨k + 1, by omega, rfl, c, rfl, HC2, hB6⟩
                  case measure => simp [intOf]; omega
              · obtain rfl : k = n := by omega
                have t1 : decide ((k : Int) < (k : Int)) = false := decide_eq_false (by omega)
                rw [List.take_of_length_le (by have := HN.out; omega)] at Hb
                obtain rfl : b = false := by
                  cases b with
                  | false => rfl
                  | true => exact absurd (Hb.out.1 rfl) (by simpa using HEB.out)
                have hBf := bcall hB5 hB
                go_wp2_with fail
                go_ret
                exact ⟨rfl, hBf⟩
    · go_wp2_with fail
      refine (tin_any a 0 65535 w2 false (by by_cases h0 : 0 ≤ a <;> simp [h0]; omega)).mono ?_; rintro e w2 ⟨rfl, rfl⟩
      go_wp2_with fail
      go_ret
      exact ⟨rfl, hB2⟩
  · have FW := Lib.hid (fun W (h : CI lay W p cap l) => fewest_bad p cap n l W hn h _ rfl hw)
    clear hn hC hw
    go_enter Try.func5, Try.ntmps5
    go_wp2_with fail
    refine (S1.out _).mono ?_; rintro e w1 ⟨v, rfl, hown, hb1⟩
    have hB1 : Below w.heap.size w w1 := bcall (balloc (brefl w) _) hb1
    obtain ⟨p1, c1, rfl, hCI⟩ := hown.form
    obtain ⟨bb, off, rfl, hbb, hc⟩ := hCI.2.2 (by rw [H41.out]; decide)
    have e0 : w1.cell? ⟨bb, off, none⟩ = some (.int .i64 4) := by
      have := hc 0 _ H4.out 0 _ rfl
      simpa using this
    rw [H41.out]
    clear hown hCI hc hbb hb1 S1
    go_wp2_with fail
    refine (FW.out w1 (HC.out.below (hB1.mono (Nat.le_refl _)))).mono ?_; rintro e w2 ⟨rfl, hb2⟩
    have hB2 := bcall hB1 hb2
    go_wp2_with fail
    go_ret
    exact ⟨rfl, hB2⟩

theorem reads : Try.f5.params.toList.all (fun t => Try.prog.readableRec t && decide (t < Try.prog.types.size)) = true := by kernel_rfl

theorem contract (H : Type) (enc : TypeId × Value → H) (W : World) (base : Nat) (args : Array Value) (ds gs : List (DataW H)) (before : List MemPlace)
    (hval : ∀ (j : Nat) t v, Try.f5.params[j]? = some t → args[j]? = some v → Value.okWide Try.prog W .any base t v)
    (hW : DataW.Whole enc Try.prog Try.f5.params.toList Rows.topTablesSpec.vars false W args.toList ds gs before) :
    Calls Try.prog 5 args W fun e W' => ∃ v, e = .returned v ∧ Rows.topTablesSpec.post enc Try.prog Try.f5 false true false false W args v W' := by
  have hW' := hW
  obtain ⟨p, q, hA0, hV, rfl, hfz, hnd⟩ := hW
  have hA : DataW.TrodAll enc Try.prog W 0 (fun _ => true) true Try.f5.params.toList args.toList ds p := hA0
  have hlt := hA.lt
  rw [Try.params5] at hA hval
  obtain ⟨v0, vs0, d0, ds0, p0, q0, hargs, rfl, rfl, h0, r0⟩ := trodAll_cons hA
  obtain ⟨v1, vs1, d1, ds1, p1, q1, hvs1, rfl, rfl, h1, r1⟩ := trodAll_cons r0
  obtain ⟨hvsn, rfl, rfl⟩ := trodAll_nil r1
  simp only [hvsn, hvs1] at hargs
  obtain rfl : args = #[v0, v1] := by cases args; simp_all
  obtain ⟨rfl, rfl⟩ := trodVars_none hV
  clear hA0
  obtain ⟨p0a, cap0, l0, rfl, i0, f0, e0⟩ := Go.Proofs.Ytapaglapngbbpaa.Cidr.open_prefixes (hval 0 38 v0 rfl rfl) h0 (fun x hx => hlt x (by simp [hx]))
  obtain ⟨a1, rfl, rfl, rfl, w1⟩ := open_int Try.underlying3 (hval 1 3 v1 rfl rfl) h1
  have b1 := bounds_int w1
  exact law_post 4 laid reads rfl Try.underlying4 rfl hW' ⟨rfl, rfl, rfl⟩ (core _ _ _ l0 a1 W rfl i0)

set_option maxRecDepth 100000 in
theorem lifted (os : Os) (started : os.Started) (H : Type) (enc : TypeId × Value → H) :
    ReturnsInHanded {} Try.checked os 5 .any (Rows.topTablesSpec.pre6 enc Try.prog Try.f5 Rows.topTablesRow.domain false) (Rows.topTablesSpec.post enc Try.prog Try.f5 false true false false) := by
  refine returnsInHanded_of_change (C := Try.checked) own started (by kernel_rfl) Try.func5
    (ChangeSpec.witness6 (enc := enc) (C := Try.checked) false ⟨#[], #[.slice none 0 0, .int .i64 0], []⟩ 8 (by kernel_rfl) (by kernel_rfl) (by kernel_rfl) (by kernel_rfl)) ?_
  intro W base args ds gs before hval hW _ _
  exact contract H enc W base args ds gs before hval hW

theorem proved : Rows.TopTablesSaid :=
  OpenClaim.holds_of_wide 5 Try.f5 rfl rfl rfl rfl rfl rfl rfl ⟨rfl, rfl, rfl, rfl, rfl⟩ rfl rfl rfl rfl rfl (by kernel_rfl) Try.func5 (by kernel_rfl)
    (of_decide_eq_true (by kernel_rfl)) (by unfold Func.isWrapper; first | (rw [if_pos (by decide +kernel)]; kernel_rfl) | (rw [if_neg (by decide +kernel)]; exact ⟨rfl, rfl⟩))
    (fun os started H enc _ => lifted os started H enc)
end Go.Proofs.Ytapaglapngbbpaa.TopTablesL
