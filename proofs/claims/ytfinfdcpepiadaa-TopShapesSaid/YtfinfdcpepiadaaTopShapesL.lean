/- TopShapes: traffic through a token bucket conforms to its arrival curve: the law returns true for every input. No condition. -/
import Derived.Test.YtfinfdcpepiadaaBucketSt
import Derived.Test.YtfinfdcpepiadaaCurve2
import Derived.Test.YtfinfdcpepiadaaShapeMath
import Derived.Test.YtfinfdcpepiadaaInTop
namespace Go.Proofs.Ytfinfdcpepiadaa.TopShapesL
open Go.ChangeShapes Go.WideShapes Go.ChangeAt Go.RowKit Go.Proofs.Ytfinfdcpepiadaa.Kit Go.Proofs.Ytfinfdcpepiadaa.App Go.Proofs.Ytfinfdcpepiadaa.Err Go.Proofs.Ytfinfdcpepiadaa.Bucket
open Go.Proofs.Ytfinfdcpepiadaa.Curve (am Shape Next lims cell_at at_some under_any shape_new next_wait next_take shape_good lims_good shape_under lims_len lims_succ two_zero)
set_option linter.unusedVariables false
set_option maxRecDepth 20000
set_option maxHeartbeats 4000000

abbrev Law (r d : Int) (p : Option Addr) (n cap : Nat) (w : World) : Prop := Calls Try.prog 7 #[.int .i64 r, .int .i64 d, .slice p n cap] w fun e w' => e = .returned (.bool true) ∧ Below w.heap.size w w'
theorem law_bad (r d : Int) (p : Option Addr) (n cap : Nat) (w : World) (h : ¬ ((0 ≤ r ∧ r ≤ 20) ∧ (0 ≤ d ∧ d ≤ 100))) : Law r d p n cap w := by
  have NW := Lib.hid (fun W => new_bad r d W h)
  rw [er_1] at NW
  unfold Law
  by_cases h1 : 0 ≤ r ∧ r ≤ 20
  · have IN := Lib.hid (fun W => int_any r 0 20 W true (in_true h1))
    have IN2 := Lib.hid (fun W => int_any d 0 100 W false (in_false (fun h2 => h ⟨h1, h2⟩)))
    clear h h1
    go_enter Try.func7, Try.ntmps7
    go_wp2_with fail
    refine (NW.out _).mono ?_; rintro e w2 ⟨rfl, rfl⟩
    go_wp2_with fail
    refine (IN.out _).mono ?_; rintro e w3 ⟨rfl, rfl⟩
    go_wp2_with fail
    refine (IN2.out _).mono ?_; rintro e w3 ⟨rfl, rfl⟩
    go_wp2_with fail
    go_ret
    exact ⟨rfl, brefl _⟩
  · have IN := Lib.hid (fun W => int_any r 0 20 W false (in_false h1))
    clear h h1
    go_enter Try.func7, Try.ntmps7
    go_wp2_with fail
    refine (NW.out _).mono ?_; rintro e w2 ⟨rfl, rfl⟩
    go_wp2_with fail
    refine (IN.out _).mono ?_; rintro e w3 ⟨rfl, rfl⟩
    go_wp2_with fail
    go_ret
    exact ⟨rfl, brefl _⟩
theorem law_good (r d : Int) (p : Option Addr) (n cap : Nat) (l : List Int) (w : World) (hn : n = l.length) (hi : Ints w p cap l) (h0 : (0 ≤ r ∧ r ≤ 20) ∧ (0 ≤ d ∧ d ≤ 100)) : Law r d p n cap w := by
  have NW := Lib.hid (fun W => new_good r d W h0)
  have HO0 := Lib.hid (ok_new h0)
  have HI := Lib.hid hi
  have HN := Lib.hid hn
  have hlen := hi.len_le
  rw [← hn] at hlen
  obtain ⟨⟨r1, r2⟩, d1, d2⟩ := h0
  have C0 := Lib.hid (fun g => take_yes g r d d 0 0 0 HO0.out (by unfold GoodT; omega) (by rw [show r * ((0 : Int) - 0) = 0 by simp, fill_zero (Int.le_refl _)]; exact d1))
  rw [show fill d d (r * ((0 : Int) - 0)) - 0 = d by rw [show r * ((0 : Int) - 0) = 0 by simp, fill_zero (Int.le_refl _)]; omega] at C0
  have HX0 := Lib.hid (shape_new (r := r) d1)
  have HP := Lib.hid (fun (t : Nat) (ht : t ≤ 16) => (show 0 ≤ r * (t : Int) ∧ r * (t : Int) ≤ 320 from by
    have := prod_in (m := (t : Int)) (M := 16) r1 r2 (by omega) (by omega)
    omega))
  clear hn hi
  unfold Law
  go_enter Try.func7, Try.ntmps7
  go_wp2_with fail
  refine (NW.out w).mono ?_; rintro e w2 ⟨rfl, hT2, hb2⟩
  obtain ⟨g, hg⟩ : ∃ g, w.heap.size = g := ⟨_, rfl⟩
  have HB2 := Lib.hid (And.intro hT2 (And.intro hb2 (Nat.le_of_eq hg)))
  rw [hg] at HB2 ⊢
  clear hT2 hb2 NW
  go_wp2_with fail
  refine (C0.out g w2 HB2.out.1).mono ?_; rintro e w3 ⟨rfl, hT3, hg3⟩
  have HM0 := Lib.hid (Mem.new (w0 := w) hT3 (gbelow (by rw [hg]; exact HB2.out.2.1) (Nat.le_refl _) hg3 (Nat.le_of_eq hg)) (Nat.le_of_eq hg))
  have HWS := Lib.hid hg
  clear hT3 hg3 HB2 C0 hg
  generalize w3.heap.size = B at HM0
  go_wp2_with fail
  go_loopw [11, 12, 13, 14] (fun a1 a2 sv tv wr => ∃ (t T : Nat) (h S : Int) (A : List Int) (v1 v2 : Value), v1 = a1 ∧ v2 = a2 ∧ sv = .int .i64 S ∧ tv = .int .i64 (t : Int) ∧ t ≤ 16 ∧ Hid (Mem w wr B g r d h (T : Int) A (lims r d t) v1 v2) ∧ Hid (Shape r d h T t S A) ∧ Hid (Ok r d h (T : Int))) (fun _ _ _ t _ => 16 - (intOf t).toNat)
  case atStart => exact ⟨0, 0, d, 0, [], _, _, rfl, rfl, rfl, rfl, by omega, HM0, HX0, HO0⟩
  case round =>
    obtain ⟨t, T, h, S, A, v1, v2, rfl, rfl, rfl, rfl, ht, HM, HA, HO⟩ := hrel
    clear HM0 HX0 HO0
    by_cases h16 : t < 16
    · have u1 : decide ((t : Int) < 16) = true := decide_eq_true (by omega)
      have HOo := HO.out
      unfold Ok at HOo
      by_cases htn : t < n
      · have u2 : decide ((t : Int) < (n : Int)) = true := decide_eq_true (by omega)
        obtain ⟨b, o, rfl⟩ := at_some HI.out (by rw [← HN.out]; omega)
        have CK := Lib.hid (fun W (hW : Below w.heap.size w W) => cell_at (HI.out.below hW) t (by rw [← HN.out]; exact htn))
        obtain ⟨x, hx⟩ : ∃ x, am l t = x := ⟨_, rfl⟩
        rw [hx] at CK
        clear hx
        have ck := CK.out wr HM.out.bel
        by_cases hG : GoodT (T : Int) (t : Int) x
        · by_cases hf : x ≤ fill d h (r * ((t : Int) - (T : Int)))
          · have C := Lib.hid (take_yes g r d h (T : Int) (t : Int) x HO.out hG hf)
            obtain ⟨f, hff⟩ : ∃ f, fill d h (r * ((t : Int) - (T : Int))) = f := ⟨_, rfl⟩
            have HX := Lib.hid (HA.out.next r1 (next_take r1 HOo.2.2.2.2.1 HOo.2.2.2.2.2.1 HA.out hff ⟨hG.1.2.1, by rw [← hff]; exact hf⟩))
            have HO4 := Lib.hid (ok_take (ok_fill HO.out hG) hG.1.2.1 hf)
            rw [hff] at C HO4
            have hs0 := HA.out.nul
            have hs1 := HA.out.fit
            have hs2 := HP.out T (by have := HA.out.tim; omega)
            have hx1 := hG.1.2
            have hh0 := HOo.2.2.2.2.1
            have hw0 := wrap_in (n := S + x) (by omega)
            clear hG hf hff hs0 hs1 hs2 hh0 HOo
            go_wp2_with fail
            refine (C.out _ HM.out.bkt).mono ?_; rintro e w8 ⟨rfl, hT8, hg8⟩
            have HM8 := Lib.hid (HM.out.call hT8 hg8)
            clear hT8 hg8 HM C
            have ck := CK.out w8 HM8.out.bel
            have hs4 := HX.out.nul
            have hf4 := HX.out.fit
            have HWF : Hid ((Lit.int .i64 (S + x)).wf = true) := Lib.hid (by
              have h9 := HP.out t (by omega)
              have h8 := HP.out t (by have := HX.out.tim; omega)
              have h7 := HO4.out
              unfold Ok at h7
              simp [Lit.wf, IntKind.min, IntKind.max, IntKind.signed, IntKind.bits]
              omega)
            clear hs4 hf4
            obtain ⟨pr1, pr2⟩ := HP.out t (by omega)
            have hw1 := wrap_in (n := r * (t : Int)) (by omega)
            have hw2 := wrap_in (n := d + r * (t : Int)) (by omega)
            have HWL : Hid ((Lit.int .i64 (d + r * (t : Int))).wf = true) := Lib.hid (by simp [Lit.wf, IntKind.min, IntKind.max, IntKind.signed, IntKind.bits]; omega)
            have HLA : Hid (A.length ≤ 16 ∧ (lims r d t).length ≤ 16) := Lib.hid ⟨by rw [HA.out.len]; omega, by rw [lims_len]; omega⟩
            go_wp2_with (first
              | (at_builtin
                 refine wp_app rfl (.tmp 74) (.tmp 76) rfl B _ A (some ⟨w8.heap.size, 0, none⟩) 1 1 [S + x] rfl (HM8.out.o1.alloc _) rfl rfl (Ints.one w8 (S + x) HWF.out) (by have := HLA.out.1; simp at this ⊢; omega) (Nat.le_trans HM8.out.siz (by simp)) ?_
                 intro va wa ho1 hg1 ht1
                 have HMa := Lib.hid ((HM8.out.alloc _).app1 ho1 hg1 ht1)
                 clear ho1 hg1 ht1)
              | (at_builtin
                 refine wp_app rfl (.tmp 78) (.tmp 84) rfl B _ (lims r d t) (some ⟨wa.heap.size, 0, none⟩) 1 1 [d + r * (t : Int)] rfl (HMa.out.o2.alloc _) rfl rfl (Ints.one wa (d + r * (t : Int)) HWL.out) (by have := HLA.out.2; simp at this ⊢; omega) (Nat.le_trans HMa.out.siz (by simp)) ?_
                 intro vb wb ho2 hg2 ht2
                 have HMb := Lib.hid ((HMa.out.alloc _).app2 ho2 hg2 ht2)
                 clear ho2 hg2 ht2))
            go_wp2_with fail
            go_roundw
            case rel => exact ⟨t + 1, t, f - x, S + x, A ++ [S + x], _, _, rfl, rfl, by first | rfl | go_num, by first | rfl | go_num, by omega, Lib.hid (by rw [lims_succ]; exact HMb.out), HX, HO4⟩
            case measure => simp [intOf]; omega
          · have C := Lib.hid (take_less g r d h (T : Int) (t : Int) x HO.out hG hf)
            obtain ⟨f, hff⟩ : ∃ f, fill d h (r * ((t : Int) - (T : Int))) = f := ⟨_, rfl⟩
            have hN := next_take (n := 0) r1 HOo.2.2.2.2.1 HOo.2.2.2.2.2.1 HA.out hff ⟨Int.le_refl _, by rw [← hff]; exact (fill_in HOo.2.2.2.2.1 HOo.2.2.2.2.2.1 (Int.mul_nonneg r1 (by have := HA.out.tim; omega))).1⟩
            rw [Int.sub_zero, Int.add_zero] at hN
            have HX := Lib.hid (HA.out.next r1 hN)
            have HO4 := Lib.hid (ok_fill HO.out hG)
            rw [hff] at C HO4
            clear hG hf hff hN HOo
            go_wp2_with fail
            refine (C.out _ HM.out.bkt).mono ?_; rintro e w8 ⟨rfl, hT8, hg8⟩
            have HM8 := Lib.hid (HM.out.call hT8 hg8)
            clear hT8 hg8 HM C
            have ck := CK.out w8 HM8.out.bel
            have hs4 := HX.out.nul
            have hf4 := HX.out.fit
            have HWF : Hid ((Lit.int .i64 (S)).wf = true) := Lib.hid (by
              have h9 := HP.out t (by omega)
              have h8 := HP.out t (by have := HX.out.tim; omega)
              have h7 := HO4.out
              unfold Ok at h7
              simp [Lit.wf, IntKind.min, IntKind.max, IntKind.signed, IntKind.bits]
              omega)
            clear hs4 hf4
            obtain ⟨pr1, pr2⟩ := HP.out t (by omega)
            have hw1 := wrap_in (n := r * (t : Int)) (by omega)
            have hw2 := wrap_in (n := d + r * (t : Int)) (by omega)
            have HWL : Hid ((Lit.int .i64 (d + r * (t : Int))).wf = true) := Lib.hid (by simp [Lit.wf, IntKind.min, IntKind.max, IntKind.signed, IntKind.bits]; omega)
            have HLA : Hid (A.length ≤ 16 ∧ (lims r d t).length ≤ 16) := Lib.hid ⟨by rw [HA.out.len]; omega, by rw [lims_len]; omega⟩
            go_wp2_with (first
              | (at_builtin
                 refine wp_app rfl (.tmp 74) (.tmp 76) rfl B _ A (some ⟨w8.heap.size, 0, none⟩) 1 1 [S] rfl (HM8.out.o1.alloc _) rfl rfl (Ints.one w8 (S) HWF.out) (by have := HLA.out.1; simp at this ⊢; omega) (Nat.le_trans HM8.out.siz (by simp)) ?_
                 intro va wa ho1 hg1 ht1
                 have HMa := Lib.hid ((HM8.out.alloc _).app1 ho1 hg1 ht1)
                 clear ho1 hg1 ht1)
              | (at_builtin
                 refine wp_app rfl (.tmp 78) (.tmp 84) rfl B _ (lims r d t) (some ⟨wa.heap.size, 0, none⟩) 1 1 [d + r * (t : Int)] rfl (HMa.out.o2.alloc _) rfl rfl (Ints.one wa (d + r * (t : Int)) HWL.out) (by have := HLA.out.2; simp at this ⊢; omega) (Nat.le_trans HMa.out.siz (by simp)) ?_
                 intro vb wb ho2 hg2 ht2
                 have HMb := Lib.hid ((HMa.out.alloc _).app2 ho2 hg2 ht2)
                 clear ho2 hg2 ht2))
            go_wp2_with fail
            go_roundw
            case rel => exact ⟨t + 1, t, f, S, A ++ [S], _, _, rfl, rfl, by first | rfl | go_num, by first | rfl | go_num, by omega, Lib.hid (by rw [lims_succ]; exact HMb.out), HX, HO4⟩
            case measure => simp [intOf]; omega
        · obtain ⟨c, hc, hC⟩ := take_not g r d h (T : Int) (t : Int) x hG
          have C := Lib.hid hC
          have HX := Lib.hid (HA.out.next r1 (next_wait HOo.2.2.2.2.1 HOo.2.2.2.2.2.1 HA.out))
          have HO4 := HO
          clear hG hc hC HOo
          go_wp2_with fail
          refine (C.out _ HM.out.bkt).mono ?_; rintro e w8 ⟨rfl, rfl⟩
          have HM8 := HM
          have hs4 := HX.out.nul
          have hf4 := HX.out.fit
          have HWF : Hid ((Lit.int .i64 (S)).wf = true) := Lib.hid (by
            have h9 := HP.out t (by omega)
            have h8 := HP.out T (by have := HX.out.tim; omega)
            have h7 := HO4.out
            unfold Ok at h7
            simp [Lit.wf, IntKind.min, IntKind.max, IntKind.signed, IntKind.bits]
            omega)
          clear hs4 hf4
          obtain ⟨pr1, pr2⟩ := HP.out t (by omega)
          have hw1 := wrap_in (n := r * (t : Int)) (by omega)
          have hw2 := wrap_in (n := d + r * (t : Int)) (by omega)
          have HWL : Hid ((Lit.int .i64 (d + r * (t : Int))).wf = true) := Lib.hid (by simp [Lit.wf, IntKind.min, IntKind.max, IntKind.signed, IntKind.bits]; omega)
          have HLA : Hid (A.length ≤ 16 ∧ (lims r d t).length ≤ 16) := Lib.hid ⟨by rw [HA.out.len]; omega, by rw [lims_len]; omega⟩
          go_wp2_with (first
            | (at_builtin
               refine wp_app rfl (.tmp 74) (.tmp 76) rfl B _ A (some ⟨w8.heap.size, 0, none⟩) 1 1 [S] rfl (HM8.out.o1.alloc _) rfl rfl (Ints.one w8 (S) HWF.out) (by have := HLA.out.1; simp at this ⊢; omega) (Nat.le_trans HM8.out.siz (by simp)) ?_
               intro va wa ho1 hg1 ht1
               have HMa := Lib.hid ((HM8.out.alloc _).app1 ho1 hg1 ht1)
               clear ho1 hg1 ht1)
            | (at_builtin
               refine wp_app rfl (.tmp 78) (.tmp 84) rfl B _ (lims r d t) (some ⟨wa.heap.size, 0, none⟩) 1 1 [d + r * (t : Int)] rfl (HMa.out.o2.alloc _) rfl rfl (Ints.one wa (d + r * (t : Int)) HWL.out) (by have := HLA.out.2; simp at this ⊢; omega) (Nat.le_trans HMa.out.siz (by simp)) ?_
               intro vb wb ho2 hg2 ht2
               have HMb := Lib.hid ((HMa.out.alloc _).app2 ho2 hg2 ht2)
               clear ho2 hg2 ht2))
          go_wp2_with fail
          go_roundw
          case rel => exact ⟨t + 1, T, h, S, A ++ [S], _, _, rfl, rfl, by first | rfl | go_num, by first | rfl | go_num, by omega, Lib.hid (by rw [lims_succ]; exact HMb.out), HX, HO4⟩
          case measure => simp [intOf]; omega
      · have u2 : decide ((t : Int) < (n : Int)) = false := decide_eq_false (by omega)
        have HX := Lib.hid (HA.out.next r1 (next_wait HOo.2.2.2.2.1 HOo.2.2.2.2.2.1 HA.out))
        have HO4 := HO
        have HM8 := HM
        clear HOo
        have hs4 := HX.out.nul
        have hf4 := HX.out.fit
        have HWF : Hid ((Lit.int .i64 (S)).wf = true) := Lib.hid (by
          have h9 := HP.out t (by omega)
          have h8 := HP.out T (by have := HX.out.tim; omega)
          have h7 := HO4.out
          unfold Ok at h7
          simp [Lit.wf, IntKind.min, IntKind.max, IntKind.signed, IntKind.bits]
          omega)
        clear hs4 hf4
        obtain ⟨pr1, pr2⟩ := HP.out t (by omega)
        have hw1 := wrap_in (n := r * (t : Int)) (by omega)
        have hw2 := wrap_in (n := d + r * (t : Int)) (by omega)
        have HWL : Hid ((Lit.int .i64 (d + r * (t : Int))).wf = true) := Lib.hid (by simp [Lit.wf, IntKind.min, IntKind.max, IntKind.signed, IntKind.bits]; omega)
        have HLA : Hid (A.length ≤ 16 ∧ (lims r d t).length ≤ 16) := Lib.hid ⟨by rw [HA.out.len]; omega, by rw [lims_len]; omega⟩
        go_wp2_with (first
          | (at_builtin
             refine wp_app rfl (.tmp 74) (.tmp 76) rfl B _ A (some ⟨wr.heap.size, 0, none⟩) 1 1 [S] rfl (HM8.out.o1.alloc _) rfl rfl (Ints.one wr (S) HWF.out) (by have := HLA.out.1; simp at this ⊢; omega) (Nat.le_trans HM8.out.siz (by simp)) ?_
             intro va wa ho1 hg1 ht1
             have HMa := Lib.hid ((HM8.out.alloc _).app1 ho1 hg1 ht1)
             clear ho1 hg1 ht1)
          | (at_builtin
             refine wp_app rfl (.tmp 78) (.tmp 84) rfl B _ (lims r d t) (some ⟨wa.heap.size, 0, none⟩) 1 1 [d + r * (t : Int)] rfl (HMa.out.o2.alloc _) rfl rfl (Ints.one wa (d + r * (t : Int)) HWL.out) (by have := HLA.out.2; simp at this ⊢; omega) (Nat.le_trans HMa.out.siz (by simp)) ?_
             intro vb wb ho2 hg2 ht2
             have HMb := Lib.hid ((HMa.out.alloc _).app2 ho2 hg2 ht2)
             clear ho2 hg2 ht2))
        go_wp2_with fail
        go_roundw
        case rel => exact ⟨t + 1, T, h, S, A ++ [S], _, _, rfl, rfl, by first | rfl | go_num, by first | rfl | go_num, by omega, Lib.hid (by rw [lims_succ]; exact HMb.out), HX, HO4⟩
        case measure => simp [intOf]; omega
    · obtain rfl : t = 16 := by omega
      have HOo := HO.out
      unfold Ok at HOo
      obtain ⟨pa, ca, rfl, hia⟩ := HM.out.o1.form
      obtain ⟨pm, cm, rfl, him⟩ := HM.out.o2.form
      have hal := HA.out.len
      have hll := lims_len (r := r) (d := d) (t := 16)
      have F := Lib.hid (under_any pa pm ca cm 16 16 A (lims r d 16) wr hal.symm hll.symm hia him 0 (two_zero.2 ⟨shape_good HA.out (by omega) (by omega) r2 d2 HOo.2.2.2.2.1, lims_good (by omega) (by omega) r1 r2 d1 d2, by rw [hal, hll]⟩) true (by rw [if_pos rfl]; exact shape_under HA.out))
      rw [er_0] at F
      have HB := Lib.hid HM.out.bel
      rw [hal, hll]
      clear HOo hia him hal hll HM HA HO
      go_wp2_with fail
      refine F.out.mono ?_; rintro e w9 ⟨rfl, i9, rfl⟩
      have HB9 := Lib.hid (bdrewN HB.out i9)
      go_wp2_with fail
      go_ret
      exact ⟨by first | rfl | simp, HB9.out⟩

theorem reads : Try.f7.params.toList.all (fun t => Try.prog.readableRec t && decide (t < Try.prog.types.size)) = true := by kernel_rfl

theorem contract (H : Type) (enc : TypeId × Value → H) (W : World) (base : Nat) (args : Array Value) (ds gs : List (DataW H)) (before : List MemPlace)
    (hval : ∀ (j : Nat) t v, Try.f7.params[j]? = some t → args[j]? = some v → Value.okWide Try.prog W .any base t v)
    (hW : DataW.Whole enc Try.prog Try.f7.params.toList Rows.topShapesSpec.vars false W args.toList ds gs before) :
    Calls Try.prog 7 args W fun e W' => ∃ v, e = .returned v ∧ Rows.topShapesSpec.post enc Try.prog Try.f7 false true false false W args v W' := by
  have hW' := hW
  obtain ⟨p, q, hA0, hV, rfl, hfz, hnd⟩ := hW
  have hA : DataW.TrodAll enc Try.prog W 0 (fun _ => true) true Try.f7.params.toList args.toList ds p := hA0
  have hlt := hA.lt
  rw [Try.params7] at hA hval
  obtain ⟨v0, vs0, d0, ds0, p0, q0, hargs, rfl, rfl, h0, r0⟩ := trodAll_cons hA
  obtain ⟨v1, vs1, d1, ds1, p1, q1, hvs1, rfl, rfl, h1, r1⟩ := trodAll_cons r0
  obtain ⟨v2, vs2, d2, ds2, p2, q2, hvs2, rfl, rfl, h2, r2⟩ := trodAll_cons r1
  obtain ⟨hvsn, rfl, rfl⟩ := trodAll_nil r2
  simp only [hvsn, hvs2, hvs1] at hargs
  obtain rfl : args = #[v0, v1, v2] := by cases args; simp_all
  obtain ⟨rfl, rfl⟩ := trodVars_none hV
  clear hA0
  obtain ⟨a0, rfl, rfl, rfl, w0⟩ := open_int Try.underlying3 (hval 0 3 v0 rfl rfl) h0
  have b0 := bounds_int w0
  obtain ⟨a1, rfl, rfl, rfl, w1⟩ := open_int Try.underlying3 (hval 1 3 v1 rfl rfl) h1
  have b1 := bounds_int w1
  obtain ⟨p2a, cap2, l2, rfl, i2⟩ := open_intsl Try.underlying22 Try.underlying3 (by kernel_rfl) (hval 2 22 v2 rfl rfl) h2 (fun x hx => hlt x (by simp [hx]))
  exact law_post 4 laid reads rfl Try.underlying4 rfl hW' ⟨rfl, rfl, rfl⟩ (by
    by_cases h : (0 ≤ a0 ∧ a0 ≤ 20) ∧ (0 ≤ a1 ∧ a1 ≤ 100)
    · exact law_good a0 a1 _ _ _ l2 W rfl i2 h
    · exact law_bad a0 a1 _ _ _ W h)

set_option maxRecDepth 100000 in
theorem lifted (os : Os) (started : os.Started) (H : Type) (enc : TypeId × Value → H) :
    ReturnsInHanded {} Try.checked os 7 .any (Rows.topShapesSpec.pre6 enc Try.prog Try.f7 Rows.topShapesRow.domain false) (Rows.topShapesSpec.post enc Try.prog Try.f7 false true false false) := by
  refine returnsInHanded_of_change (C := Try.checked) own started (by kernel_rfl) Try.func7
    (ChangeSpec.witness6 (enc := enc) (C := Try.checked) false ⟨#[], #[.int .i64 0, .int .i64 0, .slice none 0 0], []⟩ 8 (by kernel_rfl) (by kernel_rfl) (by kernel_rfl) (by kernel_rfl)) ?_
  intro W base args ds gs before hval hW _ _
  exact contract H enc W base args ds gs before hval hW

theorem proved : Rows.TopShapesSaid :=
  OpenClaim.holds_of_wide 7 Try.f7 rfl rfl rfl rfl rfl rfl rfl ⟨rfl, rfl, rfl, rfl, rfl⟩ rfl rfl rfl rfl rfl (by kernel_rfl) Try.func7 (by kernel_rfl)
    (of_decide_eq_true (by kernel_rfl)) (by unfold Func.isWrapper; first | (rw [if_pos (by decide +kernel)]; kernel_rfl) | (rw [if_neg (by decide +kernel)]; exact ⟨rfl, rfl⟩))
    (fun os started H enc _ => lifted os started H enc)
end Go.Proofs.Ytfinfdcpepiadaa.TopShapesL
