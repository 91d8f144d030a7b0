/- Three of nine ways of the law that the functions of package line return what the document specifies. No statement is proved here. -/
import Derived.Test.YtooicigocljomaaDoorLineSays0
namespace Go.Proofs.YtooicigocljomaaDoor.lineSaysP
open Go.ChangeShapes Go.WideShapes Go.ChangeAt Go.RowKit
open Go.Proofs.YtooicigocljomaaDoor.Kit Go.Proofs.YtooicigocljomaaDoor.App Go.Proofs.YtooicigocljomaaDoor.LineMath Go.Proofs.YtooicigocljomaaDoor.Line Go.Proofs.YtooicigocljomaaDoor.As
set_option linter.unusedVariables false
set_option maxRecDepth 20000

set_option maxHeartbeats 4000000 in
theorem law_full_bad (p p2 : Option Addr) (cap cap2 : Nat) (l bs : List Int) (w : World) (hg : Handle w) (hC : Codes w) (h : Ints w p cap l) (h2 : Ints w p2 cap2 bs) (ha : 40 < l.length) (m : Int) (hm : bad 200 1 bs = m) (hm0 : m ≠ 0) :
    Calls Tryd.prog 3 #[.slice p l.length cap, .slice p2 bs.length cap2] w fun e w' => e = .returned (.bool true) ∧ Below w.heap.size w w' := by
  have hlen := h.len_le
  have hlen2 := h2.len_le
  have HH := Lib.hid (fun W (hW : Below w.heap.size w W) => h.below hW)
  have HH2 := Lib.hid (fun W (hW : Below w.heap.size w W) => h2.below hW)
  have HC := Lib.hid (fun W (hW : Below w.heap.size w W) => hC.below hW)
  have ES := Lib.hid (fun k W (hW : Below w.heap.size w W) => error_same k W (hg.below hW))
  have t0 : decide ((l.length : Int) > 40) = true := decide_eq_true (by omega)
  have tp : decide ((0 : Int) < (l.length : Int)) = true := decide_eq_true (by omega)
  have FV := Lib.hid (fun W (hW : Below w.heap.size w W) => five_bad p cap l.length l W rfl (HH.out W hW) 4 (by unfold bad; rw [if_pos ha]) (by decide))
  have tpn : 0 < l.length := by omega
  clear ha
  have RB := Lib.hid (fun W (hW : Below w.heap.size w W) => rbits_any p2 cap2 bs.length bs W rfl (HH2.out W hW) m hm)
  have TV := Lib.hid (fun W (hW : Below w.heap.size w W) => turns_bad p2 cap2 bs.length bs W rfl (HH2.out W hW) m hm hm0)
  have BV := Lib.hid (fun W (hW : Below w.heap.size w W) => bits_bad p2 cap2 bs.length bs W rfl (HH2.out W hW) m hm hm0)
  have QV := Lib.hid (fun W (hW : Below w.heap.size w W) => four_bad p2 cap2 bs.length bs W rfl (HH2.out W hW) m hm hm0)
  have hpos2 := bad_pos (l := bs) (lim := 200) (hi := 1) (by rw [hm]; exact hm0)
  have tp2 : decide ((0 : Int) < (bs.length : Int)) = true := decide_eq_true (by omega)
  have tp2n : 0 < bs.length := hpos2
  have tm : (m == 0) = false := beq_eq_false_iff_ne.2 hm0
  have tm2 : (m != 0) = true := bne_iff_ne.2 hm0
  clear hm hm0 hpos2
  clear hg hC h h2
  go_enter Tryd.func3, Tryd.ntmps3
  go_wp2_with fail
  refine wp_loop_rounds 1 ?_
  rw [rounds_succ]
  go_wp2_with fail
  refine (FV.out _ (brefl _)).mono ?_; rintro e w' ⟨rfl, rfl⟩
  go_wp2_with fail
  refine (ES.out _ _ (brefl _)).mono ?_; rintro e w2 ⟨rfl, hB2⟩
  go_wp2_with fail
  refine (nils w2).mono ?_; rintro e w3 ⟨rfl, hb3⟩
  have hB3 := bcall hB2 hb3
  clear hb3 hB2 tp tpn FV t0
  go_wp2_with fail
  refine (RB.out w3 hB3).mono ?_; rintro e w' ⟨rfl, rfl⟩
  go_wp2_with fail
  refine wp_loop_rounds 1 ?_
  rw [rounds_succ]
  go_wp2_with fail
  refine (TV.out _ hB3).mono ?_; rintro e w' ⟨rfl, rfl⟩
  go_wp2_with fail
  refine (ES.out _ _ hB3).mono ?_; rintro e w4 ⟨rfl, hb4⟩
  have hB4 := bcall hB3 hb4
  go_wp2_with fail
  refine (nils w4).mono ?_; rintro e w5 ⟨rfl, hb5⟩
  have hB5 := bcall hB4 hb5
  clear hb4 hb5 hB4
  go_wp2_with fail
  refine (BV.out _ hB5).mono ?_; rintro e w' ⟨rfl, rfl⟩
  go_wp2_with fail
  refine (ES.out _ _ hB5).mono ?_; rintro e w6 ⟨rfl, hb6⟩
  have hB6 := bcall hB5 hb6
  go_wp2_with fail
  refine (nils w6).mono ?_; rintro e w7 ⟨rfl, hb7⟩
  have hB7 := bcall hB6 hb7
  clear hb6 hb7 hB6 hB5
  go_wp2_with fail
  refine wp_loop_rounds 1 ?_
  rw [rounds_succ]
  go_wp2_with fail
  refine (QV.out _ hB7).mono ?_; rintro e w8 ⟨rfl, hb8⟩
  have hB8 := bcall hB7 hb8
  go_wp2_with fail
  refine (ES.out _ _ hB8).mono ?_; rintro e w9 ⟨rfl, hb9⟩
  have hB9 := bcall hB8 hb9
  go_wp2_with fail
  refine (nils w9).mono ?_; rintro e w10 ⟨rfl, hb10⟩
  go_wp2_with fail
  go_ret
  exact ⟨rfl, bcall hB9 hb10⟩

set_option maxHeartbeats 4000000 in
theorem law_full_shape (p p2 : Option Addr) (cap cap2 : Nat) (l bs : List Int) (w : World) (hg : Handle w) (hC : Codes w) (h : Ints w p cap l) (h2 : Ints w p2 cap2 bs) (ha : 40 < l.length) (hb2 : bad 200 1 bs = 0) (h5 : ¬ bs.length % 5 = 0) :
    Calls Tryd.prog 3 #[.slice p l.length cap, .slice p2 bs.length cap2] w fun e w' => e = .returned (.bool true) ∧ Below w.heap.size w w' := by
  have hlen := h.len_le
  have hlen2 := h2.len_le
  have HH := Lib.hid (fun W (hW : Below w.heap.size w W) => h.below hW)
  have HH2 := Lib.hid (fun W (hW : Below w.heap.size w W) => h2.below hW)
  have HC := Lib.hid (fun W (hW : Below w.heap.size w W) => hC.below hW)
  have ES := Lib.hid (fun k W (hW : Below w.heap.size w W) => error_same k W (hg.below hW))
  have t0 : decide ((l.length : Int) > 40) = true := decide_eq_true (by omega)
  have tp : decide ((0 : Int) < (l.length : Int)) = true := decide_eq_true (by omega)
  have FV := Lib.hid (fun W (hW : Below w.heap.size w W) => five_bad p cap l.length l W rfl (HH.out W hW) 4 (by unfold bad; rw [if_pos ha]) (by decide))
  have tpn : 0 < l.length := by omega
  clear ha
  have hl2 := (bad_zero hb2).1
  have hu2 := Lib.hid (bad_zero hb2).2
  have RB := Lib.hid (fun W (hW : Below w.heap.size w W) => rbits_any p2 cap2 bs.length bs W rfl (HH2.out W hW) 0 hb2)
  have TV := Lib.hid (fun W (hW : Below w.heap.size w W) => turns_ok p2 cap2 bs.length bs W rfl (HH2.out W hW) hb2)
  have BV := Lib.hid (fun W (hW : Below w.heap.size w W) => bits_ok p2 cap2 bs.length bs W rfl (HH2.out W hW) hb2)
  have QV := Lib.hid (fun W (hW : Below w.heap.size w W) => four_shape p2 cap2 bs.length bs W rfl (HH2.out W hW) hb2 h5)
  have t5 : ((bs.length : Int) % 5 != 0) = true := by rw [bne_iff_ne]; omega
  have tp2n : 0 < bs.length := by omega
  have tp2 : decide ((0 : Int) < (bs.length : Int)) = true := decide_eq_true (by omega)
  clear hb2 h5
  clear hg hC h h2
  go_enter Tryd.func3, Tryd.ntmps3
  go_wp2_with fail
  refine wp_loop_rounds 1 ?_
  rw [rounds_succ]
  go_wp2_with fail
  refine (FV.out _ (brefl _)).mono ?_; rintro e w' ⟨rfl, rfl⟩
  go_wp2_with fail
  refine (ES.out _ _ (brefl _)).mono ?_; rintro e w2 ⟨rfl, hB2⟩
  go_wp2_with fail
  refine (nils w2).mono ?_; rintro e w3 ⟨rfl, hb3⟩
  have hB3 := bcall hB2 hb3
  clear hb3 hB2 tp tpn FV t0
  go_wp2_with fail
  refine (RB.out w3 hB3).mono ?_; rintro e w' ⟨rfl, rfl⟩
  go_wp2_with fail
  go_loopw [11, 12, 13, 14] (fun u v s i wr => ∃ (k : Nat), k ≤ bs.length ∧ i = .int .i64 k ∧ s = .int .i64 (level 0 (bs.take k)) ∧ OwnI wr w.heap.size u (turns 0 (bs.take k)) ∧ OwnI wr w.heap.size v (unt 0 (bs.take k)) ∧ Apt u v ∧ Below w.heap.size w wr) (fun _ _ _ i _ => bs.length - (intOf i).toNat)
  case atStart => exact ⟨0, Nat.zero_le _, rfl, rfl, OwnI.nil _ _, OwnI.nil _ _, Apt.nil _, hB3⟩
  case round =>
    obtain ⟨k, hk, rfl, rfl, how1, how2, hap, hB⟩ := hrel
    by_cases hlt : k < bs.length
    · obtain ⟨b, off, rfl, hbw, hc0⟩ := (HH2.out w (brefl w)).2.2.2 (by omega)
      have hc := Lib.hid (fun W (hW : Below w.heap.size w W) j (hj : j < bs.length) => (hW.cell (p := ⟨b, off + j, none⟩) hbw).trans (hc0 j hj))
      have HK := Lib.hid (fun W hW => hc.out W hW k hlt)
      clear hc0
      have hxr := upto_get hu2.out hlt
      have hs := say_step hlt
      have hlv := level_bit (s := 0) (by omega) (bs.take k)
      have hf1 : (turns 0 (bs.take k)).length ≤ 200 := by rw [turns_len, List.length_take]; omega
      have hf2 : (unt 0 (bs.take k)).length ≤ 200 := by rw [unt_len, List.length_take]; omega
      have hBs := hB.size
      have HS := Lib.hid hs
      clear hs
      generalize bs[k]?.getD 0 = x at HK hxr HS
      generalize turns 0 (bs.take k) = o1 at HS how1 hf1
      generalize unt 0 (bs.take k) = o2 at HS how2 hf2
      generalize level 0 (bs.take k) = s at HS hlv ⊢
      rcases Nat.eq_zero_or_pos k with rfl | hkp
      · clear hc
        rcases bit_cases hxr with rfl | rfl
        · have e0 : prev bs 0 = 0 := rfl
          rw [e0] at HS
          have HS2 := Lib.hid (show xr 0 0 = 0 by decide)
          have HS3 := Lib.hid (show xr s 0 = s by rcases bit_cases hlv with e | e <;> rw [e] <;> decide)
          have q0 := HK.out wr hB
          rw [Nat.add_zero] at q0
          have hsw : (Lit.int .i64 (s)).wf = true := wf_bit (by omega) (by omega)
          go_wp2_with (first
            | (at_builtin
               refine wp_app rfl (.tmp 75) (.tmp 77) rfl w.heap.size _ o1 (some ⟨wr.heap.size, 0, none⟩) 1 1 [s] rfl (how1.alloc _) rfl rfl (Ints.one wr _ hsw) (by simp; omega) (Nat.le_trans hBs (by simp)) ?_
               intro va wa hoa hga hata
               have hba : Below w.heap.size w wa := below_one hB hBs _ how1 hga
               have hov := (how2.alloc _).more hga hap.symm.ne
               have hva := hap.symm.grow (fun k hk => (how2.lt k hk).2) (by simp) hata
               have hbas := hba.size
               have q1 := HK.out wa hba; rw [Nat.add_zero] at q1
               clear hata hga)
            | (at_builtin
               refine wp_app rfl (.tmp 92) (.tmp 93) rfl w.heap.size _ o2 (some ⟨wa.heap.size, 0, none⟩) 1 1 [0] rfl (hov.alloc _) rfl rfl (Ints.one wa _ (by decide)) (by simp; omega) (Nat.le_trans hbas (by simp)) ?_
               intro vb wb hob hgb hatb
               have hbb : Below w.heap.size w wb := below_one hba hbas _ hov hgb
               have hoa2 : OwnI wb w.heap.size va (o1 ++ [s]) := (hoa.alloc _).more hgb hva.symm.ne
               have hab : Apt va vb := hva.symm.grow (fun k hk => (hoa.lt k hk).2) (by simp) hatb
               clear hatb hgb))
          go_roundw
          case rel => exact ⟨0 + 1, by omega, by go_num, by rw [HS.out.2.1, HS3.out], by rw [HS.out.1, HS3.out]; exact hoa2, by rw [HS.out.2.2, HS2.out]; exact hob, hab, hbb⟩
          case measure => simp [intOf]; omega
        · have e0 : prev bs 0 = 0 := rfl
          rw [e0] at HS
          have HS2 := Lib.hid (show xr 0 1 = 1 by decide)
          have HS3 := Lib.hid (show xr s 1 = 1 - s by rcases bit_cases hlv with e | e <;> rw [e] <;> decide)
          have q0 := HK.out wr hB
          rw [Nat.add_zero] at q0
          have hsw : (Lit.int .i64 (1 - s)).wf = true := wf_bit (by omega) (by omega)
          go_wp2_with (first
            | (at_builtin
               refine wp_app rfl (.tmp 75) (.tmp 77) rfl w.heap.size _ o1 (some ⟨wr.heap.size, 0, none⟩) 1 1 [1 - s] rfl (how1.alloc _) rfl rfl (Ints.one wr _ hsw) (by simp; omega) (Nat.le_trans hBs (by simp)) ?_
               intro va wa hoa hga hata
               have hba : Below w.heap.size w wa := below_one hB hBs _ how1 hga
               have hov := (how2.alloc _).more hga hap.symm.ne
               have hva := hap.symm.grow (fun k hk => (how2.lt k hk).2) (by simp) hata
               have hbas := hba.size
               have q1 := HK.out wa hba; rw [Nat.add_zero] at q1
               clear hata hga)
            | (at_builtin
               refine wp_app rfl (.tmp 95) (.tmp 96) rfl w.heap.size _ o2 (some ⟨wa.heap.size, 0, none⟩) 1 1 [1] rfl (hov.alloc _) rfl rfl (Ints.one wa _ (by decide)) (by simp; omega) (Nat.le_trans hbas (by simp)) ?_
               intro vb wb hob hgb hatb
               have hbb : Below w.heap.size w wb := below_one hba hbas _ hov hgb
               have hoa2 : OwnI wb w.heap.size va (o1 ++ [1 - s]) := (hoa.alloc _).more hgb hva.symm.ne
               have hab : Apt va vb := hva.symm.grow (fun k hk => (hoa.lt k hk).2) (by simp) hatb
               clear hatb hgb))
          go_roundw
          case rel => exact ⟨0 + 1, by omega, by go_num, by rw [HS.out.2.1, HS3.out], by rw [HS.out.1, HS3.out]; exact hoa2, by rw [HS.out.2.2, HS2.out]; exact hob, hab, hbb⟩
          case measure => simp [intOf]; omega
      · obtain ⟨j, rfl⟩ : ∃ j, k = j + 1 := ⟨k - 1, by omega⟩
        have HJ := Lib.hid (fun W hW => hc.out W hW j (by omega))
        have hyr := upto_get hu2.out (k := j) (by omega)
        have ep : prev bs (j + 1) = bs[j]?.getD 0 := by unfold prev; rw [if_neg (by omega), Nat.add_sub_cancel]
        rw [ep] at HS
        clear hc ep
        generalize bs[j]?.getD 0 = y at HJ hyr HS
        rcases bit_cases hxr with rfl | rfl
        · rcases bit_cases hyr with rfl | rfl
          · have HS2 := Lib.hid (show xr 0 0 = 0 by decide)
            have HS3 := Lib.hid (show xr s 0 = s by rcases bit_cases hlv with e | e <;> rw [e] <;> decide)
            have q0 := HK.out wr hB
            have r0 := HJ.out wr hB
            have hsw : (Lit.int .i64 (s)).wf = true := wf_bit (by omega) (by omega)
            go_wp2_with (first
              | (at_builtin
                 refine wp_app rfl (.tmp 75) (.tmp 77) rfl w.heap.size _ o1 (some ⟨wr.heap.size, 0, none⟩) 1 1 [s] rfl (how1.alloc _) rfl rfl (Ints.one wr _ hsw) (by simp; omega) (Nat.le_trans hBs (by simp)) ?_
                 intro va wa hoa hga hata
                 have hba : Below w.heap.size w wa := below_one hB hBs _ how1 hga
                 have hov := (how2.alloc _).more hga hap.symm.ne
                 have hva := hap.symm.grow (fun k hk => (how2.lt k hk).2) (by simp) hata
                 have hbas := hba.size
                 have q1 := HK.out wa hba; have r1 := HJ.out wa hba
                 clear hata hga)
              | (at_builtin
                 refine wp_app rfl (.tmp 92) (.tmp 93) rfl w.heap.size _ o2 (some ⟨wa.heap.size, 0, none⟩) 1 1 [0] rfl (hov.alloc _) rfl rfl (Ints.one wa _ (by decide)) (by simp; omega) (Nat.le_trans hbas (by simp)) ?_
                 intro vb wb hob hgb hatb
                 have hbb : Below w.heap.size w wb := below_one hba hbas _ hov hgb
                 have hoa2 : OwnI wb w.heap.size va (o1 ++ [s]) := (hoa.alloc _).more hgb hva.symm.ne
                 have hab : Apt va vb := hva.symm.grow (fun k hk => (hoa.lt k hk).2) (by simp) hatb
                 clear hatb hgb))
            go_roundw
            case rel => exact ⟨j + 1 + 1, by omega, by go_num, by rw [HS.out.2.1, HS3.out], by rw [HS.out.1, HS3.out]; exact hoa2, by rw [HS.out.2.2, HS2.out]; exact hob, hab, hbb⟩
            case measure => simp [intOf]; omega
          · have HS2 := Lib.hid (show xr 1 0 = 1 by decide)
            have HS3 := Lib.hid (show xr s 0 = s by rcases bit_cases hlv with e | e <;> rw [e] <;> decide)
            have q0 := HK.out wr hB
            have r0 := HJ.out wr hB
            have hsw : (Lit.int .i64 (s)).wf = true := wf_bit (by omega) (by omega)
            go_wp2_with (first
              | (at_builtin
                 refine wp_app rfl (.tmp 75) (.tmp 77) rfl w.heap.size _ o1 (some ⟨wr.heap.size, 0, none⟩) 1 1 [s] rfl (how1.alloc _) rfl rfl (Ints.one wr _ hsw) (by simp; omega) (Nat.le_trans hBs (by simp)) ?_
                 intro va wa hoa hga hata
                 have hba : Below w.heap.size w wa := below_one hB hBs _ how1 hga
                 have hov := (how2.alloc _).more hga hap.symm.ne
                 have hva := hap.symm.grow (fun k hk => (how2.lt k hk).2) (by simp) hata
                 have hbas := hba.size
                 have q1 := HK.out wa hba; have r1 := HJ.out wa hba
                 clear hata hga)
              | (at_builtin
                 refine wp_app rfl (.tmp 95) (.tmp 96) rfl w.heap.size _ o2 (some ⟨wa.heap.size, 0, none⟩) 1 1 [1] rfl (hov.alloc _) rfl rfl (Ints.one wa _ (by decide)) (by simp; omega) (Nat.le_trans hbas (by simp)) ?_
                 intro vb wb hob hgb hatb
                 have hbb : Below w.heap.size w wb := below_one hba hbas _ hov hgb
                 have hoa2 : OwnI wb w.heap.size va (o1 ++ [s]) := (hoa.alloc _).more hgb hva.symm.ne
                 have hab : Apt va vb := hva.symm.grow (fun k hk => (hoa.lt k hk).2) (by simp) hatb
                 clear hatb hgb))
            go_roundw
            case rel => exact ⟨j + 1 + 1, by omega, by go_num, by rw [HS.out.2.1, HS3.out], by rw [HS.out.1, HS3.out]; exact hoa2, by rw [HS.out.2.2, HS2.out]; exact hob, hab, hbb⟩
            case measure => simp [intOf]; omega
        · rcases bit_cases hyr with rfl | rfl
          · have HS2 := Lib.hid (show xr 0 1 = 1 by decide)
            have HS3 := Lib.hid (show xr s 1 = 1 - s by rcases bit_cases hlv with e | e <;> rw [e] <;> decide)
            have q0 := HK.out wr hB
            have r0 := HJ.out wr hB
            have hsw : (Lit.int .i64 (1 - s)).wf = true := wf_bit (by omega) (by omega)
            go_wp2_with (first
              | (at_builtin
                 refine wp_app rfl (.tmp 75) (.tmp 77) rfl w.heap.size _ o1 (some ⟨wr.heap.size, 0, none⟩) 1 1 [1 - s] rfl (how1.alloc _) rfl rfl (Ints.one wr _ hsw) (by simp; omega) (Nat.le_trans hBs (by simp)) ?_
                 intro va wa hoa hga hata
                 have hba : Below w.heap.size w wa := below_one hB hBs _ how1 hga
                 have hov := (how2.alloc _).more hga hap.symm.ne
                 have hva := hap.symm.grow (fun k hk => (how2.lt k hk).2) (by simp) hata
                 have hbas := hba.size
                 have q1 := HK.out wa hba; have r1 := HJ.out wa hba
                 clear hata hga)
              | (at_builtin
                 refine wp_app rfl (.tmp 95) (.tmp 96) rfl w.heap.size _ o2 (some ⟨wa.heap.size, 0, none⟩) 1 1 [1] rfl (hov.alloc _) rfl rfl (Ints.one wa _ (by decide)) (by simp; omega) (Nat.le_trans hbas (by simp)) ?_
                 intro vb wb hob hgb hatb
                 have hbb : Below w.heap.size w wb := below_one hba hbas _ hov hgb
                 have hoa2 : OwnI wb w.heap.size va (o1 ++ [1 - s]) := (hoa.alloc _).more hgb hva.symm.ne
                 have hab : Apt va vb := hva.symm.grow (fun k hk => (hoa.lt k hk).2) (by simp) hatb
                 clear hatb hgb))
            go_roundw
            case rel => exact ⟨j + 1 + 1, by omega, by go_num, by rw [HS.out.2.1, HS3.out], by rw [HS.out.1, HS3.out]; exact hoa2, by rw [HS.out.2.2, HS2.out]; exact hob, hab, hbb⟩
            case measure => simp [intOf]; omega
          · have HS2 := Lib.hid (show xr 1 1 = 0 by decide)
            have HS3 := Lib.hid (show xr s 1 = 1 - s by rcases bit_cases hlv with e | e <;> rw [e] <;> decide)
            have q0 := HK.out wr hB
            have r0 := HJ.out wr hB
            have hsw : (Lit.int .i64 (1 - s)).wf = true := wf_bit (by omega) (by omega)
            go_wp2_with (first
              | (at_builtin
                 refine wp_app rfl (.tmp 75) (.tmp 77) rfl w.heap.size _ o1 (some ⟨wr.heap.size, 0, none⟩) 1 1 [1 - s] rfl (how1.alloc _) rfl rfl (Ints.one wr _ hsw) (by simp; omega) (Nat.le_trans hBs (by simp)) ?_
                 intro va wa hoa hga hata
                 have hba : Below w.heap.size w wa := below_one hB hBs _ how1 hga
                 have hov := (how2.alloc _).more hga hap.symm.ne
                 have hva := hap.symm.grow (fun k hk => (how2.lt k hk).2) (by simp) hata
                 have hbas := hba.size
                 have q1 := HK.out wa hba; have r1 := HJ.out wa hba
                 clear hata hga)
              | (at_builtin
                 refine wp_app rfl (.tmp 92) (.tmp 93) rfl w.heap.size _ o2 (some ⟨wa.heap.size, 0, none⟩) 1 1 [0] rfl (hov.alloc _) rfl rfl (Ints.one wa _ (by decide)) (by simp; omega) (Nat.le_trans hbas (by simp)) ?_
                 intro vb wb hob hgb hatb
                 have hbb : Below w.heap.size w wb := below_one hba hbas _ hov hgb
                 have hoa2 : OwnI wb w.heap.size va (o1 ++ [1 - s]) := (hoa.alloc _).more hgb hva.symm.ne
                 have hab : Apt va vb := hva.symm.grow (fun k hk => (hoa.lt k hk).2) (by simp) hatb
                 clear hatb hgb))
            go_roundw
            case rel => exact ⟨j + 1 + 1, by omega, by go_num, by rw [HS.out.2.1, HS3.out], by rw [HS.out.1, HS3.out]; exact hoa2, by rw [HS.out.2.2, HS2.out]; exact hob, hab, hbb⟩
            case measure => simp [intOf]; omega
    · obtain rfl : k = bs.length := by omega
      rw [List.take_length] at how1 how2
      obtain ⟨T1, hT1⟩ : ∃ T1, turns 0 bs = T1 := ⟨_, rfl⟩
      obtain ⟨U1, hU1⟩ : ∃ U1, unt 0 bs = U1 := ⟨_, rfl⟩
      rw [hT1] at how1 TV
      rw [hU1] at how2 BV
      clear hT1 hU1
      obtain ⟨q1, c1, rfl, i1⟩ := how1.form
      obtain ⟨q2, c2, rfl, i2⟩ := how2.form
      clear how1 how2 hap hB3
      go_wp2_with fail
      refine (TV.out _ hB).mono ?_; rintro e w4 ⟨v4, rfl, ho4, hb4⟩
      have hB4 := bcall hB hb4
      have i1 := i1.below hb4
      have i2 := i2.below hb4
      obtain ⟨q4, c4, rfl, i4⟩ := ho4.form
      clear ho4 hb4
      go_wp2_with fail
      refine (error_none _).mono ?_; rintro e w' ⟨rfl, rfl⟩
      go_wp2_with fail
      refine (ints_any q4 q1 c4 c1 T1.length T1.length T1 T1 w4 rfl rfl i4 i1 true (by rw [beq_self_eq_true])).mono ?_; rintro e w5 ⟨rfl, hb5⟩
      have hB5 := bcall hB4 hb5
      have i2 := i2.below hb5
      clear i4 i1 hb5 hB4 hB
      go_wp2_with fail
      refine (BV.out _ hB5).mono ?_; rintro e w6 ⟨v6, rfl, ho6, hb6⟩
      have hB6 := bcall hB5 hb6
      have i2 := i2.below hb6
      obtain ⟨q6, c6, rfl, i6⟩ := ho6.form
      clear ho6 hb6
      go_wp2_with fail
      refine (error_none _).mono ?_; rintro e w' ⟨rfl, rfl⟩
      go_wp2_with fail
      refine (ints_any q6 q2 c6 c2 U1.length U1.length U1 U1 w6 rfl rfl i6 i2 true (by rw [beq_self_eq_true])).mono ?_; rintro e w7 ⟨rfl, hb7⟩
      have hB7 := bcall hB6 hb7
      clear i6 i2 hb7 hB6 hB5 TV BV
      go_wp2_with fail
      refine wp_loop_rounds 1 ?_
      rw [rounds_succ]
      go_wp2_with fail
      refine (QV.out _ hB7).mono ?_; rintro e w8 ⟨rfl, hb8⟩
      have hB8 := bcall hB7 hb8
      go_wp2_with fail
      refine (ES.out _ _ hB8).mono ?_; rintro e w9 ⟨rfl, hb9⟩
      have hB9 := bcall hB8 hb9
      go_wp2_with fail
      refine (nils w9).mono ?_; rintro e w10 ⟨rfl, hb10⟩
      go_wp2_with fail
      go_ret
      exact ⟨rfl, bcall hB9 hb10⟩

set_option maxHeartbeats 4000000 in
theorem law_full_ok (p p2 : Option Addr) (cap cap2 : Nat) (l bs : List Int) (w : World) (hg : Handle w) (hC : Codes w) (h : Ints w p cap l) (h2 : Ints w p2 cap2 bs) (ha : 40 < l.length) (hb2 : bad 200 1 bs = 0) (k5 : Nat) (h5 : 5 * k5 = bs.length) :
    Calls Tryd.prog 3 #[.slice p l.length cap, .slice p2 bs.length cap2] w fun e w' => e = .returned (.bool true) ∧ Below w.heap.size w w' := by
  have hlen := h.len_le
  have hlen2 := h2.len_le
  have HH := Lib.hid (fun W (hW : Below w.heap.size w W) => h.below hW)
  have HH2 := Lib.hid (fun W (hW : Below w.heap.size w W) => h2.below hW)
  have HC := Lib.hid (fun W (hW : Below w.heap.size w W) => hC.below hW)
  have ES := Lib.hid (fun k W (hW : Below w.heap.size w W) => error_same k W (hg.below hW))
  have t0 : decide ((l.length : Int) > 40) = true := decide_eq_true (by omega)
  have tp : decide ((0 : Int) < (l.length : Int)) = true := decide_eq_true (by omega)
  have FV := Lib.hid (fun W (hW : Below w.heap.size w W) => five_bad p cap l.length l W rfl (HH.out W hW) 4 (by unfold bad; rw [if_pos ha]) (by decide))
  have tpn : 0 < l.length := by omega
  clear ha
  have hl2 := (bad_zero hb2).1
  have hu2 := Lib.hid (bad_zero hb2).2
  have RB := Lib.hid (fun W (hW : Below w.heap.size w W) => rbits_any p2 cap2 bs.length bs W rfl (HH2.out W hW) 0 hb2)
  have TV := Lib.hid (fun W (hW : Below w.heap.size w W) => turns_ok p2 cap2 bs.length bs W rfl (HH2.out W hW) hb2)
  have BV := Lib.hid (fun W (hW : Below w.heap.size w W) => bits_ok p2 cap2 bs.length bs W rfl (HH2.out W hW) hb2)
  have QG := Lib.hid (fun x (hx : four bs k5 = some x) W (hW : Below w.heap.size w W) => four_good p2 cap2 bs.length bs W rfl (HH2.out W hW) (HC.out W hW) hb2 k5 h5 x hx)
  have QS := Lib.hid (fun (hx : four bs k5 = none) W (hW : Below w.heap.size w W) => four_syn p2 cap2 bs.length bs W rfl (HH2.out W hW) (HC.out W hW) hb2 k5 h5 hx)
  have t5 : ((bs.length : Int) % 5 != 0) = false := by rw [bne_eq_false_iff_eq]; omega
  have H5 := Lib.hid h5
  clear hb2 h5
  clear hg hC h h2
  go_enter Tryd.func3, Tryd.ntmps3
  go_wp2_with fail
  refine wp_loop_rounds 1 ?_
  rw [rounds_succ]
  go_wp2_with fail
  refine (FV.out _ (brefl _)).mono ?_; rintro e w' ⟨rfl, rfl⟩
  go_wp2_with fail
  refine (ES.out _ _ (brefl _)).mono ?_; rintro e w2 ⟨rfl, hB2⟩
  go_wp2_with fail
  refine (nils w2).mono ?_; rintro e w3 ⟨rfl, hb3⟩
  have hB3 := bcall hB2 hb3
  clear hb3 hB2 tp tpn FV t0
  go_wp2_with fail
  refine (RB.out w3 hB3).mono ?_; rintro e w' ⟨rfl, rfl⟩
  go_wp2_with fail
  go_loopw [11, 12, 13, 14] (fun u v s i wr => ∃ (k : Nat), k ≤ bs.length ∧ i = .int .i64 k ∧ s = .int .i64 (level 0 (bs.take k)) ∧ OwnI wr w.heap.size u (turns 0 (bs.take k)) ∧ OwnI wr w.heap.size v (unt 0 (bs.take k)) ∧ Apt u v ∧ Below w.heap.size w wr) (fun _ _ _ i _ => bs.length - (intOf i).toNat)
  case atStart => exact ⟨0, Nat.zero_le _, rfl, rfl, OwnI.nil _ _, OwnI.nil _ _, Apt.nil _, hB3⟩
  case round =>
    obtain ⟨k, hk, rfl, rfl, how1, how2, hap, hB⟩ := hrel
    by_cases hlt : k < bs.length
    · obtain ⟨b, off, rfl, hbw, hc0⟩ := (HH2.out w (brefl w)).2.2.2 (by omega)
      have hc := Lib.hid (fun W (hW : Below w.heap.size w W) j (hj : j < bs.length) => (hW.cell (p := ⟨b, off + j, none⟩) hbw).trans (hc0 j hj))
      have HK := Lib.hid (fun W hW => hc.out W hW k hlt)
      clear hc0
      have hxr := upto_get hu2.out hlt
      have hs := say_step hlt
      have hlv := level_bit (s := 0) (by omega) (bs.take k)
      have hf1 : (turns 0 (bs.take k)).length ≤ 200 := by rw [turns_len, List.length_take]; omega
      have hf2 : (unt 0 (bs.take k)).length ≤ 200 := by rw [unt_len, List.length_take]; omega
      have hBs := hB.size
      have HS := Lib.hid hs
      clear hs
      generalize bs[k]?.getD 0 = x at HK hxr HS
      generalize turns 0 (bs.take k) = o1 at HS how1 hf1
      generalize unt 0 (bs.take k) = o2 at HS how2 hf2
      generalize level 0 (bs.take k) = s at HS hlv ⊢
      rcases Nat.eq_zero_or_pos k with rfl | hkp
      · clear hc
        rcases bit_cases hxr with rfl | rfl
        · have e0 : prev bs 0 = 0 := rfl
          rw [e0] at HS
          have HS2 := Lib.hid (show xr 0 0 = 0 by decide)
          have HS3 := Lib.hid (show xr s 0 = s by rcases bit_cases hlv with e | e <;> rw [e] <;> decide)
          have q0 := HK.out wr hB
          rw [Nat.add_zero] at q0
          have hsw : (Lit.int .i64 (s)).wf = true := wf_bit (by omega) (by omega)
          go_wp2_with (first
            | (at_builtin
               refine wp_app rfl (.tmp 75) (.tmp 77) rfl w.heap.size _ o1 (some ⟨wr.heap.size, 0, none⟩) 1 1 [s] rfl (how1.alloc _) rfl rfl (Ints.one wr _ hsw) (by simp; omega) (Nat.le_trans hBs (by simp)) ?_
               intro va wa hoa hga hata
               have hba : Below w.heap.size w wa := below_one hB hBs _ how1 hga
               have hov := (how2.alloc _).more hga hap.symm.ne
               have hva := hap.symm.grow (fun k hk => (how2.lt k hk).2) (by simp) hata
               have hbas := hba.size
               have q1 := HK.out wa hba; rw [Nat.add_zero] at q1
               clear hata hga)
            | (at_builtin
               refine wp_app rfl (.tmp 92) (.tmp 93) rfl w.heap.size _ o2 (some ⟨wa.heap.size, 0, none⟩) 1 1 [0] rfl (hov.alloc _) rfl rfl (Ints.one wa _ (by decide)) (by simp; omega) (Nat.le_trans hbas (by simp)) ?_
               intro vb wb hob hgb hatb
               have hbb : Below w.heap.size w wb := below_one hba hbas _ hov hgb
               have hoa2 : OwnI wb w.heap.size va (o1 ++ [s]) := (hoa.alloc _).more hgb hva.symm.ne
               have hab : Apt va vb := hva.symm.grow (fun k hk => (hoa.lt k hk).2) (by simp) hatb
               clear hatb hgb))
          go_roundw
          case rel => exact ⟨0 + 1, by omega, by go_num, by rw [HS.out.2.1, HS3.out], by rw [HS.out.1, HS3.out]; exact hoa2, by rw [HS.out.2.2, HS2.out]; exact hob, hab, hbb⟩
          case measure => simp [intOf]; omega
        · have e0 : prev bs 0 = 0 := rfl
          rw [e0] at HS
          have HS2 := Lib.hid (show xr 0 1 = 1 by decide)
          have HS3 := Lib.hid (show xr s 1 = 1 - s by rcases bit_cases hlv with e | e <;> rw [e] <;> decide)
          have q0 := HK.out wr hB
          rw [Nat.add_zero] at q0
          have hsw : (Lit.int .i64 (1 - s)).wf = true := wf_bit (by omega) (by omega)
          go_wp2_with (first
            | (at_builtin
               refine wp_app rfl (.tmp 75) (.tmp 77) rfl w.heap.size _ o1 (some ⟨wr.heap.size, 0, none⟩) 1 1 [1 - s] rfl (how1.alloc _) rfl rfl (Ints.one wr _ hsw) (by simp; omega) (Nat.le_trans hBs (by simp)) ?_
               intro va wa hoa hga hata
               have hba : Below w.heap.size w wa := below_one hB hBs _ how1 hga
               have hov := (how2.alloc _).more hga hap.symm.ne
               have hva := hap.symm.grow (fun k hk => (how2.lt k hk).2) (by simp) hata
               have hbas := hba.size
               have q1 := HK.out wa hba; rw [Nat.add_zero] at q1
               clear hata hga)
            | (at_builtin
               refine wp_app rfl (.tmp 95) (.tmp 96) rfl w.heap.size _ o2 (some ⟨wa.heap.size, 0, none⟩) 1 1 [1] rfl (hov.alloc _) rfl rfl (Ints.one wa _ (by decide)) (by simp; omega) (Nat.le_trans hbas (by simp)) ?_
               intro vb wb hob hgb hatb
               have hbb : Below w.heap.size w wb := below_one hba hbas _ hov hgb
               have hoa2 : OwnI wb w.heap.size va (o1 ++ [1 - s]) := (hoa.alloc _).more hgb hva.symm.ne
               have hab : Apt va vb := hva.symm.grow (fun k hk => (hoa.lt k hk).2) (by simp) hatb
               clear hatb hgb))
          go_roundw
          case rel => exact ⟨0 + 1, by omega, by go_num, by rw [HS.out.2.1, HS3.out], by rw [HS.out.1, HS3.out]; exact hoa2, by rw [HS.out.2.2, HS2.out]; exact hob, hab, hbb⟩
          case measure => simp [intOf]; omega
      · obtain ⟨j, rfl⟩ : ∃ j, k = j + 1 := ⟨k - 1, by omega⟩
        have HJ := Lib.hid (fun W hW => hc.out W hW j (by omega))
        have hyr := upto_get hu2.out (k := j) (by omega)
        have ep : prev bs (j + 1) = bs[j]?.getD 0 := by unfold prev; rw [if_neg (by omega), Nat.add_sub_cancel]
        rw [ep] at HS
        clear hc ep
        generalize bs[j]?.getD 0 = y at HJ hyr HS
        rcases bit_cases hxr with rfl | rfl
        · rcases bit_cases hyr with rfl | rfl
          · have HS2 := Lib.hid (show xr 0 0 = 0 by decide)
            have HS3 := Lib.hid (show xr s 0 = s by rcases bit_cases hlv with e | e <;> rw [e] <;> decide)
            have q0 := HK.out wr hB
            have r0 := HJ.out wr hB
            have hsw : (Lit.int .i64 (s)).wf = true := wf_bit (by omega) (by omega)
            go_wp2_with (first
              | (at_builtin
                 refine wp_app rfl (.tmp 75) (.tmp 77) rfl w.heap.size _ o1 (some ⟨wr.heap.size, 0, none⟩) 1 1 [s] rfl (how1.alloc _) rfl rfl (Ints.one wr _ hsw) (by simp; omega) (Nat.le_trans hBs (by simp)) ?_
                 intro va wa hoa hga hata
                 have hba : Below w.heap.size w wa := below_one hB hBs _ how1 hga
                 have hov := (how2.alloc _).more hga hap.symm.ne
                 have hva := hap.symm.grow (fun k hk => (how2.lt k hk).2) (by simp) hata
                 have hbas := hba.size
                 have q1 := HK.out wa hba; have r1 := HJ.out wa hba
                 clear hata hga)
              | (at_builtin
                 refine wp_app rfl (.tmp 92) (.tmp 93) rfl w.heap.size _ o2 (some ⟨wa.heap.size, 0, none⟩) 1 1 [0] rfl (hov.alloc _) rfl rfl (Ints.one wa _ (by decide)) (by simp; omega) (Nat.le_trans hbas (by simp)) ?_
                 intro vb wb hob hgb hatb
                 have hbb : Below w.heap.size w wb := below_one hba hbas _ hov hgb
                 have hoa2 : OwnI wb w.heap.size va (o1 ++ [s]) := (hoa.alloc _).more hgb hva.symm.ne
                 have hab : Apt va vb := hva.symm.grow (fun k hk => (hoa.lt k hk).2) (by simp) hatb
                 clear hatb hgb))
            go_roundw
            case rel => exact ⟨j + 1 + 1, by omega, by go_num, by rw [HS.out.2.1, HS3.out], by rw [HS.out.1, HS3.out]; exact hoa2, by rw [HS.out.2.2, HS2.out]; exact hob, hab, hbb⟩
            case measure => simp [intOf]; omega
          · have HS2 := Lib.hid (show xr 1 0 = 1 by decide)
            have HS3 := Lib.hid (show xr s 0 = s by rcases bit_cases hlv with e | e <;> rw [e] <;> decide)
            have q0 := HK.out wr hB
            have r0 := HJ.out wr hB
            have hsw : (Lit.int .i64 (s)).wf = true := wf_bit (by omega) (by omega)
            go_wp2_with (first
              | (at_builtin
                 refine wp_app rfl (.tmp 75) (.tmp 77) rfl w.heap.size _ o1 (some ⟨wr.heap.size, 0, none⟩) 1 1 [s] rfl (how1.alloc _) rfl rfl (Ints.one wr _ hsw) (by simp; omega) (Nat.le_trans hBs (by simp)) ?_
                 intro va wa hoa hga hata
                 have hba : Below w.heap.size w wa := below_one hB hBs _ how1 hga
                 have hov := (how2.alloc _).more hga hap.symm.ne
                 have hva := hap.symm.grow (fun k hk => (how2.lt k hk).2) (by simp) hata
                 have hbas := hba.size
                 have q1 := HK.out wa hba; have r1 := HJ.out wa hba
                 clear hata hga)
              | (at_builtin
                 refine wp_app rfl (.tmp 95) (.tmp 96) rfl w.heap.size _ o2 (some ⟨wa.heap.size, 0, none⟩) 1 1 [1] rfl (hov.alloc _) rfl rfl (Ints.one wa _ (by decide)) (by simp; omega) (Nat.le_trans hbas (by simp)) ?_
                 intro vb wb hob hgb hatb
                 have hbb : Below w.heap.size w wb := below_one hba hbas _ hov hgb
                 have hoa2 : OwnI wb w.heap.size va (o1 ++ [s]) := (hoa.alloc _).more hgb hva.symm.ne
                 have hab : Apt va vb := hva.symm.grow (fun k hk => (hoa.lt k hk).2) (by simp) hatb
                 clear hatb hgb))
            go_roundw
            case rel => exact ⟨j + 1 + 1, by omega, by go_num, by rw [HS.out.2.1, HS3.out], by rw [HS.out.1, HS3.out]; exact hoa2, by rw [HS.out.2.2, HS2.out]; exact hob, hab, hbb⟩
            case measure => simp [intOf]; omega
        · rcases bit_cases hyr with rfl | rfl
          · have HS2 := Lib.hid (show xr 0 1 = 1 by decide)
            have HS3 := Lib.hid (show xr s 1 = 1 - s by rcases bit_cases hlv with e | e <;> rw [e] <;> decide)
            have q0 := HK.out wr hB
            have r0 := HJ.out wr hB
            have hsw : (Lit.int .i64 (1 - s)).wf = true := wf_bit (by omega) (by omega)
            go_wp2_with (first
              | (at_builtin
                 refine wp_app rfl (.tmp 75) (.tmp 77) rfl w.heap.size _ o1 (some ⟨wr.heap.size, 0, none⟩) 1 1 [1 - s] rfl (how1.alloc _) rfl rfl (Ints.one wr _ hsw) (by simp; omega) (Nat.le_trans hBs (by simp)) ?_
                 intro va wa hoa hga hata
                 have hba : Below w.heap.size w wa := below_one hB hBs _ how1 hga
                 have hov := (how2.alloc _).more hga hap.symm.ne
                 have hva := hap.symm.grow (fun k hk => (how2.lt k hk).2) (by simp) hata
                 have hbas := hba.size
                 have q1 := HK.out wa hba; have r1 := HJ.out wa hba
                 clear hata hga)
              | (at_builtin
                 refine wp_app rfl (.tmp 95) (.tmp 96) rfl w.heap.size _ o2 (some ⟨wa.heap.size, 0, none⟩) 1 1 [1] rfl (hov.alloc _) rfl rfl (Ints.one wa _ (by decide)) (by simp; omega) (Nat.le_trans hbas (by simp)) ?_
                 intro vb wb hob hgb hatb
                 have hbb : Below w.heap.size w wb := below_one hba hbas _ hov hgb
                 have hoa2 : OwnI wb w.heap.size va (o1 ++ [1 - s]) := (hoa.alloc _).more hgb hva.symm.ne
                 have hab : Apt va vb := hva.symm.grow (fun k hk => (hoa.lt k hk).2) (by simp) hatb
                 clear hatb hgb))
            go_roundw
            case rel => exact ⟨j + 1 + 1, by omega, by go_num, by rw [HS.out.2.1, HS3.out], by rw [HS.out.1, HS3.out]; exact hoa2, by rw [HS.out.2.2, HS2.out]; exact hob, hab, hbb⟩
            case measure => simp [intOf]; omega
          · have HS2 := Lib.hid (show xr 1 1 = 0 by decide)
            have HS3 := Lib.hid (show xr s 1 = 1 - s by rcases bit_cases hlv with e | e <;> rw [e] <;> decide)
            have q0 := HK.out wr hB
            have r0 := HJ.out wr hB
            have hsw : (Lit.int .i64 (1 - s)).wf = true := wf_bit (by omega) (by omega)
            go_wp2_with (first
              | (at_builtin
                 refine wp_app rfl (.tmp 75) (.tmp 77) rfl w.heap.size _ o1 (some ⟨wr.heap.size, 0, none⟩) 1 1 [1 - s] rfl (how1.alloc _) rfl rfl (Ints.one wr _ hsw) (by simp; omega) (Nat.le_trans hBs (by simp)) ?_
                 intro va wa hoa hga hata
                 have hba : Below w.heap.size w wa := below_one hB hBs _ how1 hga
                 have hov := (how2.alloc _).more hga hap.symm.ne
                 have hva := hap.symm.grow (fun k hk => (how2.lt k hk).2) (by simp) hata
                 have hbas := hba.size
                 have q1 := HK.out wa hba; have r1 := HJ.out wa hba
                 clear hata hga)
              | (at_builtin
                 refine wp_app rfl (.tmp 92) (.tmp 93) rfl w.heap.size _ o2 (some ⟨wa.heap.size, 0, none⟩) 1 1 [0] rfl (hov.alloc _) rfl rfl (Ints.one wa _ (by decide)) (by simp; omega) (Nat.le_trans hbas (by simp)) ?_
                 intro vb wb hob hgb hatb
                 have hbb : Below w.heap.size w wb := below_one hba hbas _ hov hgb
                 have hoa2 : OwnI wb w.heap.size va (o1 ++ [1 - s]) := (hoa.alloc _).more hgb hva.symm.ne
                 have hab : Apt va vb := hva.symm.grow (fun k hk => (hoa.lt k hk).2) (by simp) hatb
                 clear hatb hgb))
            go_roundw
            case rel => exact ⟨j + 1 + 1, by omega, by go_num, by rw [HS.out.2.1, HS3.out], by rw [HS.out.1, HS3.out]; exact hoa2, by rw [HS.out.2.2, HS2.out]; exact hob, hab, hbb⟩
            case measure => simp [intOf]; omega
    · obtain rfl : k = bs.length := by omega
      rw [List.take_length] at how1 how2
      obtain ⟨T1, hT1⟩ : ∃ T1, turns 0 bs = T1 := ⟨_, rfl⟩
      obtain ⟨U1, hU1⟩ : ∃ U1, unt 0 bs = U1 := ⟨_, rfl⟩
      rw [hT1] at how1 TV
      rw [hU1] at how2 BV
      clear hT1 hU1
      obtain ⟨q1, c1, rfl, i1⟩ := how1.form
      obtain ⟨q2, c2, rfl, i2⟩ := how2.form
      clear how1 how2 hap hB3
      go_wp2_with fail
      refine (TV.out _ hB).mono ?_; rintro e w4 ⟨v4, rfl, ho4, hb4⟩
      have hB4 := bcall hB hb4
      have i1 := i1.below hb4
      have i2 := i2.below hb4
      obtain ⟨q4, c4, rfl, i4⟩ := ho4.form
      clear ho4 hb4
      go_wp2_with fail
      refine (error_none _).mono ?_; rintro e w' ⟨rfl, rfl⟩
      go_wp2_with fail
      refine (ints_any q4 q1 c4 c1 T1.length T1.length T1 T1 w4 rfl rfl i4 i1 true (by rw [beq_self_eq_true])).mono ?_; rintro e w5 ⟨rfl, hb5⟩
      have hB5 := bcall hB4 hb5
      have i2 := i2.below hb5
      clear i4 i1 hb5 hB4 hB
      go_wp2_with fail
      refine (BV.out _ hB5).mono ?_; rintro e w6 ⟨v6, rfl, ho6, hb6⟩
      have hB6 := bcall hB5 hb6
      have i2 := i2.below hb6
      obtain ⟨q6, c6, rfl, i6⟩ := ho6.form
      clear ho6 hb6
      go_wp2_with fail
      refine (error_none _).mono ?_; rintro e w' ⟨rfl, rfl⟩
      go_wp2_with fail
      refine (ints_any q6 q2 c6 c2 U1.length U1.length U1 U1 w6 rfl rfl i6 i2 true (by rw [beq_self_eq_true])).mono ?_; rintro e w7 ⟨rfl, hb7⟩
      have hB7 := bcall hB6 hb7
      clear i6 i2 hb7 hB6 hB5 TV BV
      go_wp2_with fail
      go_loopw [5, 6, 18] (fun x v i wr => Below w.heap.size w wr ∧ ((∃ (k : Nat) (out : List Int), k ≤ k5 ∧ x = .int .i64 0 ∧ i = .int .i64 (5 * (k : Int)) ∧ Hid (four bs k = some out) ∧ OwnI wr w.heap.size v out) ∨
          (∃ (k : Nat) (q : Option Addr) (n c : Nat), k ≤ k5 ∧ x = .int .i64 2 ∧ i = .int .i64 (5 * (k : Int)) ∧ v = .slice q n c ∧ Hid (four bs k5 = none)))) (fun x _ i _ => bs.length - (intOf i).toNat)
      case atStart => exact ⟨hB7, .inl ⟨0, [], by omega, rfl, rfl, rfl, OwnI.nil _ _⟩⟩
      case round =>
        obtain ⟨hB, ⟨k, out, hk, rfl, rfl, HE, hown⟩ | ⟨k, qn, nn, cn, hk, rfl, rfl, rfl, HE⟩⟩ := hrel
        · by_cases hlt : k < k5
          · have hlt5 : 5 * k + 5 ≤ bs.length := by have := H5.out; omega
            obtain ⟨b, off, rfl, hbw, hc⟩ := (HH2.out wr hB).2.2.2 (by omega)
            have hcap2 := (HH2.out wr hB).1
            have hcapm := (HH2.out wr hB).2.1
            have hcapm' : cap2 ≤ 9223372036854775807 := by unfold maxLen at hcapm; omega
            have hsub := ints_sub (HH2.out wr hB) (5 * k) 5 (cap2 - 5 * k) (by omega) (by omega) (by omega)
            rw [cut5_eq hlt5] at hsub
            have hol : out.length ≤ 40 := by have := (four_some HE.out).1; omega
            have hstep := four_step HE.out
            have hcl : (cut5 bs k).length = 5 := rfl
            have hle := four_le (l := bs) (k := k + 1) (m := k5) (by omega)
            have hn16 : ∀ z : Nat, num (cut5 bs k) = some z → z < 16 := fun z e => (num_some e).1
            have RN := fun R => rnum_any (some ⟨b, off + 5 * k, none⟩) (cap2 - 5 * k) 5 (cut5 bs k) wr rfl hsub R
            have f1 : 5 * (k : Int) + 5 ≤ (cap2 : Int) := by omega
            have f2 : (5 * (k : Int)).toNat = 5 * k := by omega
            have f3 : (5 * (k : Int) + 5).toNat = 5 * k + 5 := by omega
            have f4 : 5 * (k : Int) < (bs.length : Int) := by omega
            have f0 : (0 : Int) ≤ 5 * (k : Int) := by omega
            have f5 : 5 * (k : Int) ≤ 5 * (k : Int) + 5 := by omega
            have hBs := hB.size
            have HST := Lib.hid hstep
            have HLE := Lib.hid hle
            have HK := Lib.hid hcl
            clear hc hsub hstep hle hcl
            cases hnum : num (cut5 bs k) with
            | some z =>
              have hz := hn16 z hnum
              have HF := Lib.hid (HST.out.1 z hnum)
              have RZ := Lib.hid (RN (z : Int) (by rw [hnum]))
              have tz : decide ((z : Int) < 0) = false := decide_eq_false (by omega)
              have hzw : (Lit.int .i64 (z : Int)).wf = true := by simp [Lit.wf, IntKind.min, IntKind.max, IntKind.signed, IntKind.bits]; omega
              clear RN hnum hn16
              go_wp2_with fail
              refine RZ.out.mono ?_; rintro e wn ⟨rfl, hbn⟩
              have hBn := bcall hB hbn
              have hownn := hown.below hbn
              have hBns := hBn.size
              clear hbn hown RZ
              go_wp2_with (at_builtin
                           refine wp_app rfl (.tmp 150) (.tmp 152) rfl w.heap.size _ out (some ⟨wn.heap.size, 0, none⟩) 1 1 [(z : Int)] rfl (hownn.alloc _) rfl rfl (Ints.one wn _ hzw) (by simp; omega) (Nat.le_trans hBns (by simp)) ?_
                           intro v1 wa hown1 hg1 hat1
                           have hb1 : Below w.heap.size w wa := below_one hBn hBns _ hownn hg1
                           clear hat1 hg1)
              go_roundw
              case rel => exact ⟨hb1, .inl ⟨k + 1, _, by omega, rfl, by go_num, HF.out, hown1⟩⟩
              case measure => simp [intOf]; omega
            | none =>
              have HF := Lib.hid (HLE.out (HST.out.2 hnum))
              have RZ := Lib.hid (RN (-1) (by rw [hnum]))
              clear RN hnum hn16
              go_wp2_with fail
              refine RZ.out.mono ?_; rintro e wn ⟨rfl, hbn⟩
              have hBn := bcall hB hbn
              have hownn := hown.below hbn
              have hBns := hBn.size
              clear hbn hown RZ
              go_wp2_with (at_builtin
                           refine wp_app rfl (.tmp 150) (.tmp 152) rfl w.heap.size _ out (some ⟨wn.heap.size, 0, none⟩) 1 1 [(-1 : Int)] rfl (hownn.alloc _) rfl rfl (Ints.one wn _ (by decide)) (by simp; omega) (Nat.le_trans hBns (by simp)) ?_
                           intro v1 wa hown1 hg1 hat1
                           have hb1 : Below w.heap.size w wa := below_one hBn hBns _ hownn hg1
                           clear hat1 hg1)
              obtain ⟨qv, cv, rfl, _⟩ := hown1.form
              generalize (out ++ [(-1 : Int)]).length = nv
              clear hown1
              go_roundw
              case rel => exact ⟨hb1, .inr ⟨k + 1, _, _, _, by omega, rfl, by go_num, rfl, HF.out⟩⟩
              case measure => simp [intOf]; omega
          · obtain rfl : k = k5 := by omega
            have f4 : ¬ 5 * (k : Int) < (bs.length : Int) := by have := H5.out; omega
            have f4d : decide (5 * (k : Int) < (bs.length : Int)) = false := decide_eq_false f4
            obtain ⟨qv, cv, rfl, iv⟩ := hown.form
            have QQ := Lib.hid (QG.out out HE.out)
            clear hown HE H5 QG QS
            go_wp2_with fail
            refine (QQ.out _ hB).mono ?_; rintro e w8 ⟨v8, rfl, ho8, hb8⟩
            have hB8 := bcall hB hb8
            have iv8 := iv.below hb8
            obtain ⟨q8, c8, rfl, i8⟩ := ho8.form
            clear ho8 hb8 iv
            go_wp2_with fail
            refine (error_none _).mono ?_; rintro e w' ⟨rfl, rfl⟩
            go_wp2_with fail
            refine (ints_any q8 qv c8 cv out.length out.length out out w8 rfl rfl i8 iv8 true (by rw [beq_self_eq_true])).mono ?_; rintro e w9 ⟨rfl, hb9⟩
            go_wp2_with fail
            go_ret
            exact ⟨rfl, bcall hB8 hb9⟩
        · have QQ := Lib.hid (QS.out HE.out)
          clear HE H5 QG QS
          by_cases f4 : 5 * (k : Int) < (bs.length : Int)
          · have f4d : decide (5 * (k : Int) < (bs.length : Int)) = true := decide_eq_true f4
            go_wp2_with fail
            refine (QQ.out _ hB).mono ?_; rintro e w8 ⟨rfl, hb8⟩
            have hB8 := bcall hB hb8
            go_wp2_with fail
            refine (ES.out _ _ hB8).mono ?_; rintro e w9 ⟨rfl, hb9⟩
            have hB9 := bcall hB8 hb9
            go_wp2_with fail
            refine (nils w9).mono ?_; rintro e w10 ⟨rfl, hb10⟩
            go_wp2_with fail
            go_ret
            exact ⟨rfl, bcall hB9 hb10⟩
          · have f4d : decide (5 * (k : Int) < (bs.length : Int)) = false := decide_eq_false f4
            go_wp2_with fail
            refine (QQ.out _ hB).mono ?_; rintro e w8 ⟨rfl, hb8⟩
            have hB8 := bcall hB hb8
            go_wp2_with fail
            refine (ES.out _ _ hB8).mono ?_; rintro e w9 ⟨rfl, hb9⟩
            have hB9 := bcall hB8 hb9
            go_wp2_with fail
            refine (nils w9).mono ?_; rintro e w10 ⟨rfl, hb10⟩
            go_wp2_with fail
            go_ret
            exact ⟨rfl, bcall hB9 hb10⟩

end Go.Proofs.YtooicigocljomaaDoor.lineSaysP
