/- Fewer prefixes have the same addresses, each of them once: the law returns true for every input. No condition. -/
import Derived.Test.YtfkfffcbhjmekaaCidrLaw
namespace Go.Proofs.Ytfkfffcbhjmekaa.cidrSetP
open Go.ChangeShapes Go.WideShapes Go.ChangeAt Go.RowKit
open Go.Proofs.Ytfkfffcbhjmekaa.Kit Go.Proofs.Ytfkfffcbhjmekaa.App Go.Proofs.Ytfkfffcbhjmekaa.Cells Go.Proofs.Ytfkfffcbhjmekaa.Cidr Go.Proofs.Ytfkfffcbhjmekaa.CidrMath
set_option linter.unusedVariables false
set_option maxRecDepth 20000

theorem cov_take (l : List Pfx) (k : Nat) (x : Pfx) (h : l[k]? = some x) (a : Nat) : cov (l.take (k + 1)) a ↔ cov (l.take k) a ∨ has x a := by rw [take_one h, cov_append, cov_one]
def cnt (l : List Pfx) (a : Nat) : Nat := l.countP fun x => decide (has x a)
theorem cnt_take (l : List Pfx) (k : Nat) (x : Pfx) (h : l[k]? = some x) (a : Nat) : cnt (l.take (k + 1)) a = cnt (l.take k) a + (if has x a then 1 else 0) := by
  unfold cnt
  rw [take_one h, List.countP_append]
  congr 1
  by_cases e : has x a
  · rw [if_pos e]; simp [e]
  · rw [if_neg e]; simp [e]
theorem cnt_le (l : List Pfx) (k a : Nat) : cnt (l.take k) a ≤ l.length := Nat.le_trans List.countP_le_length (List.length_take_le' _ _)
abbrev Law (p : Option Addr) (cap : Nat) (l : List Pfx) (a : Int) (w : World) : Prop := Calls Try.prog 3 #[.slice p l.length cap, .int .i64 a] w fun e w' => e = .returned (.bool true) ∧ Below w.heap.size w w'
set_option maxHeartbeats 1000000 in
theorem law_bad (p : Option Addr) (cap : Nat) (l : List Pfx) (a : Int) (w : World) (hc : CI lay w p cap l) (h : wrong l ≠ 0) : Law p cap l a w := by
  have FA := Lib.hid (fact_any w)
  have M1 := Lib.hid (fun W (hw : Below w.heap.size w W) => fewest_bad p cap l.length l W rfl (hc.below hw) _ rfl h)
  obtain ⟨c, hcc⟩ : ∃ c, wrong l = c := ⟨_, rfl⟩
  rw [hcc] at M1
  clear hc h hcc
  unfold Law
  go_enter Try.func3, Try.ntmps3
  go_wp2_with fail
  refine FA.out.mono ?_; rintro e w1 ⟨rfl, hb1⟩
  go_wp2_with fail
  refine (M1.out _ hb1).mono ?_; rintro e w2 ⟨rfl, hb2⟩
  have hB2 := bcall hb1 hb2
  go_wp2_with fail
  go_ret
  exact ⟨rfl, hB2⟩
set_option maxHeartbeats 1000000 in
theorem law_out (p : Option Addr) (cap : Nat) (l : List Pfx) (a : Int) (w : World) (hc : CI lay w p cap l) (h : wrong l = 0) (ha : ¬ (0 ≤ a ∧ a ≤ 65535)) : Law p cap l a w := by
  have FA := Lib.hid (fact_any w)
  have M1 := Lib.hid (fun W (hw : Below w.heap.size w W) => fewest_good p cap l.length l W rfl (hc.below hw) h)
  have IN := Lib.hid (fun W => in_any a 0 65535 W false (in_iff _ _ _ _ ⟨fun h => by simp at h, fun h => absurd h ha⟩))
  clear hc h ha
  unfold Law
  go_enter Try.func3, Try.ntmps3
  go_wp2_with fail
  refine FA.out.mono ?_; rintro e w1 ⟨rfl, hb1⟩
  go_wp2_with fail
  refine (M1.out _ hb1).mono ?_; rintro e w2 ⟨v, rfl, hown, hb2⟩
  have hB2 := bcall hb1 hb2
  clear hown
  go_wp2_with fail
  refine (IN.out _).mono ?_; rintro e w3 ⟨rfl, rfl⟩
  go_wp2_with fail
  go_ret
  exact ⟨rfl, hB2⟩
set_option maxHeartbeats 4000000 in
theorem law_good (p : Option Addr) (cap : Nat) (l : List Pfx) (a : Nat) (w : World) (hc : CI lay w p cap l) (h : wrong l = 0) (ha : a ≤ 65535) : Law p cap l (a : Int) w := by
  have FA := Lib.hid (fact_any w)
  have M1 := Lib.hid (fun W (hw : Below w.heap.size w W) => fewest_good p cap l.length l W rfl (hc.below hw) h)
  have IN := Lib.hid (fun W => in_any (a : Int) 0 65535 W true (in_iff _ _ _ _ ⟨fun _ => ⟨by omega, by omega⟩, fun _ => rfl⟩))
  have HA := Lib.hid (fun (x : Pfx) (hx : CidrMath.Good x) (R : Bool) (hR : R = true ↔ has x a) W => has_good x (a : Int) W hx ⟨by omega, by omega⟩ R hR)
  obtain ⟨hl32, hg⟩ := (wrong_zero l).1 h
  have HG := Lib.hid hg
  have HGm := Lib.hid (few0_good l)
  have hlen := few0_len l hg
  have hcov := few0_cov l hg a
  have hcnt := count_apart (few0 l) (few0_pair l) a
  obtain ⟨m, hm⟩ : ∃ m, few0 l = m := ⟨_, rfl⟩
  rw [hm] at M1 HGm hlen hcov hcnt
  have HCV := Lib.hid hcov
  have HCN := Lib.hid (show cnt m a = if cov m a then 1 else 0 from hcnt)
  obtain ⟨n, hn⟩ : ∃ n, l.length = n := ⟨_, rfl⟩
  obtain ⟨r, hr⟩ : ∃ r, m.length = r := ⟨_, rfl⟩
  unfold Law
  rw [hn, hr] at hlen
  rw [hn] at M1 hl32 ⊢
  have HN := Lib.hid hn
  have HR := Lib.hid hr
  have HCI := Lib.hid hc
  clear h hg hcov hcnt hm hn hr hc
  go_enter Try.func3, Try.ntmps3
  go_wp2_with fail
  refine FA.out.mono ?_; rintro e w1 ⟨rfl, hb1⟩
  go_wp2_with fail
  refine (M1.out _ hb1).mono ?_; rintro e w2 ⟨v, rfl, hown, hb2⟩
  have hB2 := bcall hb1 hb2
  obtain ⟨q, c, rfl, hCm⟩ := hown.form
  rw [HR.out]
  have HCm := Lib.hid hCm
  clear hown M1 FA hb1 hb2 hCm
  go_wp2_with fail
  refine (IN.out _).mono ?_; rintro e w3 ⟨rfl, rfl⟩
  have hs3 := hB2.size
  go_wp2_with fail
  go_loopw [8, 9] (fun sv iv wr => ∃ (k : Nat) (wb : Bool), sv = .bool wb ∧ iv = .int .i64 k ∧ k ≤ n ∧ Hid (wb = true ↔ cov (l.take k) a) ∧ Below w3.heap.size w3 wr) (fun _ i _ => n - (intOf i).toNat)
  case atStart => exact ⟨0, false, rfl, by rfl, Nat.zero_le _, ⟨fun h => by simp at h, fun h => absurd h (cov_nil a)⟩, brefl w3⟩
  case round =>
    obtain ⟨k, wb, rfl, rfl, hk, H, hB⟩ := hrel
    by_cases hlt : k < n
    · have hkl : k < l.length := by rw [HN.out]; exact hlt
      obtain ⟨b, off, rfl, hbw, hcell⟩ := HCI.out.2.2 (by omega)
      obtain ⟨x, hx⟩ : ∃ x, l[k]? = some x := ⟨_, List.getElem?_eq_getElem hkl⟩
      have hbk : wr.heap[b]? = w.heap[b]? := (hB.block b (by omega)).trans (hB2.block b hbw)
      have x0 : wr.cell? ⟨b, off + k * 2, none⟩ = some (.int .i64 x.adr) := (World.cell?_of_block (w := w) (a := ⟨b, off + k * 2, none⟩) hbk).trans (hcell k x hx 0 _ rfl)
      have x1 : wr.cell? ⟨b, off + k * 2 + 1, none⟩ = some (.int .i64 x.len) := (World.cell?_of_block (w := w) (a := ⟨b, off + k * 2 + 1, none⟩) hbk).trans (hcell k x hx 1 _ rfl)
      have hct := cov_take l k x hx a
      obtain ⟨R, hR⟩ : ∃ R : Bool, (R = true ↔ has x a) := ⟨decide (has x a), decide_eq_true_iff⟩
      have HX := Lib.hid (HA.out x (HG.out x (List.mem_of_getElem? hx)) R hR)
      unfold val at HX
      have HW : Hid ((wb || R) = true ↔ cov (l.take (k + 1)) a) := by
        refine ⟨fun h => ?_, fun h => ?_⟩
        · rw [Bool.or_eq_true] at h
          exact hct.2 (h.imp H.out.1 hR.1)
        · rw [Bool.or_eq_true]
          exact (hct.1 h).imp H.out.2 hR.2
      clear hcell hx hct hR hkl hbk
      cases wb with
      | true =>
        have HW : Hid (true = true ↔ cov (l.take (k + 1)) a) := ⟨fun _ => HW.out.1 (by simp), fun _ => rfl⟩
        go_wp2_with fail
        refine (HX.out _).mono ?_; rintro e w4 ⟨rfl, hg4⟩
        have hB4 : Below w3.heap.size w3 w4 := below_gr hB hB.size hg4
        clear hg4 HX hB
        go_wp2_with fail
        go_roundw
        case rel => exact ⟨k + 1, true, by first | rfl | go_num, by first | rfl | go_num, by omega, ⟨fun _ => by have h := HW.out; simpa using h, fun _ => rfl⟩, hB4⟩
        case measure => simp [intOf]; omega
      | false =>
        have HW : Hid (R = true ↔ cov (l.take (k + 1)) a) := by
          have h := HW.out
          rw [Bool.false_or] at h
          exact h
        go_wp2_with fail
        refine (HX.out _).mono ?_; rintro e w4 ⟨rfl, hg4⟩
        have hB4 : Below w3.heap.size w3 w4 := below_gr hB hB.size hg4
        clear hg4 HX hB
        go_wp2_with fail
        go_roundw
        case rel => exact ⟨k + 1, R, by first | rfl | go_num, by first | rfl | go_num, by omega, HW, hB4⟩
        case measure => simp [intOf]; omega
    · obtain rfl : k = n := by omega
      have HW : Hid (wb = true ↔ cov l a) := by
        have h1 := H.out
        rw [List.take_of_length_le (by rw [HN.out]; exact Nat.le_refl _)] at h1
        exact h1
      clear H
      have hsr := hB.size
      go_wp2_with fail
      obtain ⟨wz, rfl⟩ : ∃ z, z = wr := ⟨wr, rfl⟩
      go_loopw [12, 13] (fun sv iv wr => ∃ (j t : Nat), sv = .int .i64 t ∧ iv = .int .i64 j ∧ j ≤ r ∧ t ≤ j ∧ Hid (t = cnt (m.take j) a) ∧ Below wz.heap.size wz wr) (fun _ i _ => r - (intOf i).toNat)
      case atStart => exact ⟨0, 0, by rfl, by rfl, Nat.zero_le _, Nat.zero_le _, by simp [Hid, cnt], brefl wz⟩
      case round =>
        obtain ⟨j, t, rfl, rfl, hj, htj, HT, hBs⟩ := hrel
        by_cases hlt : j < r
        · have hkl : j < m.length := by rw [HR.out]; exact hlt
          obtain ⟨b, off, rfl, hbw, hcell⟩ := HCm.out.2.2 (by omega)
          obtain ⟨x, hx⟩ : ∃ x, m[j]? = some x := ⟨_, List.getElem?_eq_getElem hkl⟩
          have hbk : wr.heap[b]? = w3.heap[b]? := (hBs.block b (by omega)).trans (hB.block b hbw)
          have x0 : wr.cell? ⟨b, off + j * 2, none⟩ = some (.int .i64 x.adr) := (World.cell?_of_block (w := w3) (a := ⟨b, off + j * 2, none⟩) hbk).trans (hcell j x hx 0 _ rfl)
          have x1 : wr.cell? ⟨b, off + j * 2 + 1, none⟩ = some (.int .i64 x.len) := (World.cell?_of_block (w := w3) (a := ⟨b, off + j * 2 + 1, none⟩) hbk).trans (hcell j x hx 1 _ rfl)
          have hct := cnt_take m j x hx a
          by_cases hin : has x a
          · have HX := Lib.hid (HA.out x (HGm.out x (List.mem_of_getElem? hx)) true ⟨fun _ => hin, fun _ => rfl⟩)
            unfold val at HX
            rw [if_pos hin, ← HT.out] at hct
            have HC := Lib.hid hct
            have hq : IntKind.i64.wrap ((t : Int) + 1) = (t : Int) + 1 := by rw [IntKind.wrap_i64]; omega
            clear hcell hx hct hin hkl hbk
            go_wp2_with fail
            refine (HX.out _).mono ?_; rintro e w4 ⟨rfl, hg4⟩
            have hB4 : Below wz.heap.size wz w4 := below_gr hBs hBs.size hg4
            clear hg4 HX hBs
            go_wp2_with fail
            go_roundw
            case rel => exact ⟨j + 1, t + 1, by first | rfl | go_num, by first | rfl | go_num, by omega, by omega, HC.out.symm, hB4⟩
            case measure => simp [intOf]; omega
          · have HX := Lib.hid (HA.out x (HGm.out x (List.mem_of_getElem? hx)) false ⟨fun h => by simp at h, fun h => absurd h hin⟩)
            unfold val at HX
            rw [if_neg hin, ← HT.out, Nat.add_zero] at hct
            have HC := Lib.hid hct
            clear hcell hx hct hin hkl hbk
            go_wp2_with fail
            refine (HX.out _).mono ?_; rintro e w4 ⟨rfl, hg4⟩
            have hB4 : Below wz.heap.size wz w4 := below_gr hBs hBs.size hg4
            clear hg4 HX hBs
            go_wp2_with fail
            go_roundw
            case rel => exact ⟨j + 1, t, by first | rfl | go_num, by first | rfl | go_num, by omega, by omega, HC.out.symm, hB4⟩
            case measure => simp [intOf]; omega
        · obtain rfl : j = r := by omega
          have ht : t = if cov m a then 1 else 0 := by
            have h1 := HT.out
            rw [List.take_of_length_le (by rw [HR.out]; exact Nat.le_refl _), HCN.out] at h1
            exact h1
          have hBE := Lib.hid (hB2.trans ((hB.trans (hBs.mono hsr)).mono hs3))
          have u1 : decide ((j : Int) ≤ (k : Int)) = true := decide_eq_true (by omega)
          have u2 : decide (j ≤ k) = true := decide_eq_true hlen
          by_cases hcv : cov l a
          · have hw : wb = true := HW.out.2 hcv
            rw [if_pos (HCV.out.2 hcv)] at ht
            subst hw; subst ht
            clear hcv HT
            go_wp2_with fail
            go_ret
            exact ⟨rfl, hBE.out⟩
          · have hw : wb = false := by
              cases wb
              · rfl
              · exact absurd (HW.out.1 rfl) hcv
            rw [if_neg (fun h => hcv (HCV.out.1 h))] at ht
            subst hw; subst ht
            clear hcv HT
            go_wp2_with fail
            go_ret
            exact ⟨rfl, hBE.out⟩
theorem law_any (p : Option Addr) (cap : Nat) (l : List Pfx) (a : Int) (w : World) (hc : CI lay w p cap l) : Law p cap l a w := by
  by_cases h : wrong l = 0
  · by_cases ha : 0 ≤ a ∧ a ≤ 65535
    · obtain ⟨n, rfl⟩ := Int.eq_ofNat_of_zero_le ha.1
      exact law_good p cap l n w hc h (by omega)
    · exact law_out p cap l a w hc h ha
  · exact law_bad p cap l a w hc h

theorem reads : Try.f3.params.toList.all (fun t => Try.prog.readableRec t && decide (t < Try.prog.types.size)) = true := by kernel_rfl

theorem contract (H : Type) (enc : TypeId × Value → H) (W : World) (base : Nat) (args : Array Value) (ds gs : List (DataW H)) (before : List MemPlace)
    (hval : ∀ (j : Nat) t v, Try.f3.params[j]? = some t → args[j]? = some v → Value.okWide Try.prog W .any base t v)
    (hW : DataW.Whole enc Try.prog Try.f3.params.toList Rows.cidrSetSpec.vars false W args.toList ds gs before) :
    Calls Try.prog 3 args W fun e W' => ∃ v, e = .returned v ∧ Rows.cidrSetSpec.post enc Try.prog Try.f3 false true false false W args v W' := by
  have hW' := hW
  obtain ⟨p, q, hA0, hV, rfl, hfz, hnd⟩ := hW
  have hA : DataW.TrodAll enc Try.prog W 0 (fun _ => true) true Try.f3.params.toList args.toList ds p := hA0
  have hlt := hA.lt
  rw [Try.params3] at hA hval
  obtain ⟨v0, vs0, d0, ds0, p0, q0, hargs, rfl, rfl, h0, r0⟩ := trodAll_cons hA
  obtain ⟨v1, vs1, d1, ds1, p1, q1, hvs1, rfl, rfl, h1, r1⟩ := trodAll_cons r0
  obtain ⟨hvsn, rfl, rfl⟩ := trodAll_nil r1
  simp only [hvsn, hvs1] at hargs
  obtain rfl : args = #[v0, v1] := by cases args; simp_all
  obtain ⟨rfl, rfl⟩ := trodVars_none hV
  clear hA0
  obtain ⟨p0a, cap0, l0, rfl, i0, f0, e0⟩ := Go.Proofs.Ytfkfffcbhjmekaa.Cidr.open_prefixes (hval 0 22 v0 rfl rfl) h0 (fun x hx => hlt x (by simp [hx]))
  obtain ⟨a1, rfl, rfl, rfl, w1⟩ := open_int Try.underlying3 (hval 1 3 v1 rfl rfl) h1
  have b1 := bounds_int w1
  exact law_post 4 laid reads rfl Try.underlying4 rfl hW' ⟨rfl, rfl, rfl⟩ (law_any p0a cap0 l0 a1 W i0)

set_option maxRecDepth 100000 in
theorem lifted (os : Os) (started : os.Started) (H : Type) (enc : TypeId × Value → H) :
    ReturnsInHanded {} Try.checked os 3 .any (Rows.cidrSetSpec.pre6 enc Try.prog Try.f3 Rows.cidrSetRow.domain false) (Rows.cidrSetSpec.post enc Try.prog Try.f3 false true false false) := by
  refine returnsInHanded_of_change (C := Try.checked) own started (by kernel_rfl) Try.func3
    (ChangeSpec.witness6 (enc := enc) (C := Try.checked) false ⟨#[], #[.slice none 0 0, .int .i64 0], []⟩ 8 (by kernel_rfl) (by kernel_rfl) (by kernel_rfl) (by kernel_rfl)) ?_
  intro W base args ds gs before hval hW _ _
  exact contract H enc W base args ds gs before hval hW

theorem proved : Rows.CidrSetSaid :=
  OpenClaim.holds_of_wide 3 Try.f3 rfl rfl rfl rfl rfl rfl rfl ⟨rfl, rfl, rfl, rfl, rfl⟩ rfl rfl rfl rfl rfl (by kernel_rfl) Try.func3 (by kernel_rfl)
    (of_decide_eq_true (by kernel_rfl)) (by unfold Func.isWrapper; first | (rw [if_pos (by decide +kernel)]; kernel_rfl) | (rw [if_neg (by decide +kernel)]; exact ⟨rfl, rfl⟩))
    (fun os started H enc _ => lifted os started H enc)

end Go.Proofs.Ytfkfffcbhjmekaa.cidrSetP
