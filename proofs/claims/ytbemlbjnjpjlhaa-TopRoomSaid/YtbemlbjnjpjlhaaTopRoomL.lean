/- TopRoom: of what a flow lets be on its way, and what there is room for at the end, the less is sent, and it is never too much: the law returns true for every input. No condition. -/
import Derived.Test.YtbemlbjnjpjlhaaRenoLaw
import Derived.Test.YtbemlbjnjpjlhaaWindow1
import Derived.Test.YtbemlbjnjpjlhaaInTop
namespace Go.Proofs.Ytbemlbjnjpjlhaa.TopRoomL
open Go.ChangeShapes Go.WideShapes Go.ChangeAt Go.RowKit Go.Proofs.Ytbemlbjnjpjlhaa.Kit Go.Proofs.Ytbemlbjnjpjlhaa.App Go.Proofs.Ytbemlbjnjpjlhaa.Err Go.Proofs.Ytbemlbjnjpjlhaa.Reno Go.Proofs.Ytbemlbjnjpjlhaa.Window
set_option linter.unusedVariables false
set_option maxRecDepth 20000

abbrev Law (r : Int) (p : Option Addr) (n cap : Nat) (w : World) : Prop := Calls Try.prog 6 #[.int .i64 r, .slice p n cap] w fun e w' => e = .returned (.bool true) ∧ Below w.heap.size w w'
theorem law_bad (r : Int) (p : Option Addr) (n cap : Nat) (w : World) (h : ¬ (0 ≤ r ∧ r ≤ 100)) : Law r p n cap w := by
  have NB := Lib.hid (Window.new_bad r w h)
  rw [er_1] at NB
  have IN := Lib.hid (fun W => int_any r 0 100 W false (in_false h))
  unfold Law
  go_enter Try.func6, Try.ntmps6
  go_wp2_with fail
  refine NB.out.mono ?_; rintro e w1 ⟨rfl, rfl⟩
  go_wp2_with fail
  refine (IN.out _).mono ?_; rintro e w2 ⟨rfl, rfl⟩
  go_wp2_with fail
  go_ret
  exact ⟨by first | rfl | simp, brefl _⟩
set_option maxHeartbeats 8000000 in
theorem law_good (r : Int) (p0 : Option Addr) (cap n : Nat) (l : List Int) (w : World) (hr : 0 ≤ r ∧ r ≤ 100) (hn : n = l.length) (hi : Ints w p0 cap l) : Law r p0 n cap w := by
  have hcap := hi.len_le
  rw [← hn] at hcap
  have HI := Lib.hid hi
  have HN := Lib.hid hn
  clear hi hn
  have NG := Lib.hid (Window.new_good r w hr)
  have NF := Lib.hid (fun W => Reno.new_any W)
  obtain ⟨r1, r2⟩ := hr
  unfold Law
  go_enter Try.func6, Try.ntmps6
  go_wp2_with fail
  refine NG.out.mono ?_; rintro e w1 ⟨rfl, hP1, hb1⟩
  have HP1 := Lib.hid hP1
  have hpl := hP1.lt
  obtain ⟨gp, hgp⟩ : ∃ g, w.heap.size = g := ⟨_, rfl⟩
  have HGP := Lib.hid (Nat.le_of_eq hgp)
  rw [hgp] at HP1 hpl
  rw [hgp] at ⊢
  clear hgp hP1 NG
  go_wp2_with fail
  refine (NF.out _).mono ?_; rintro e w2 ⟨rfl, hF2, hb2⟩
  have HF2 := Lib.hid hF2
  have HP2 := Lib.hid (HP1.out.below hb2)
  have HB2 := Lib.hid (bcall hb1 hb2)
  have HGF := Lib.hid hb1.size
  have HNE := Lib.hid (Nat.ne_of_gt hpl)
  clear hF2 HP1 hb1 hb2 hpl NF
  generalize w1.heap.size = gf at HF2 HGF HNE ⊢
  have C := Lib.hid (window_at gf _ _ _ w2 HF2.out)
  go_wp2_with fail
  refine C.out.mono ?_; rintro e w3 ⟨rfl, m3, rfl⟩
  have HF3 := Lib.hid (HF2.out.drewN m3)
  have HP3 := Lib.hid (HP2.out.drewN m3)
  have HB3 := Lib.hid (bdrewN HB2.out m3)
  clear C HF2 HP2 HB2
  generalize w2.drewN m3 = w3 at HF3 HP3 HB3 ⊢
  go_wp2_with fail
  go_loopw [10] (fun iv wr => ∃ j : Nat, iv = .int .i64 (j : Int) ∧ j ≤ n ∧ ∃ b c a h k, Hid (b + c = r) ∧ Hid (Window.Ok r b c) ∧ Hid (Reno.Ok (a, h, k)) ∧ Hid (Pip wr gp r b c) ∧ Hid (Flw wr gf (a, h, k)) ∧ Hid (Below w.heap.size w wr)) (fun i _ => n - (intOf i).toNat)
  case atStart => exact ⟨0, rfl, Nat.zero_le _, 0, r, 1, 1000, 0, Lib.hid (by omega), Lib.hid (by unfold Window.Ok; omega), Lib.hid ok_new, HP3, HF3, HB3⟩
  case round =>
    obtain ⟨j, rfl, hj, b, c, a, h, k, HS, HO, HQ, HP, HF, HB⟩ := hrel
    clear HP3 HF3 HB3
    by_cases hjn : j < n
    · have t1 : decide ((j : Int) < (n : Int)) = true := decide_eq_true (by omega)
      by_cases hj60 : j < 60
      · have t2 : decide ((j : Int) < 60) = true := decide_eq_true (by omega)
        obtain ⟨bb, off, rfl, hbb, hcs⟩ := HI.out.2.2.2 (by rw [← HN.out]; omega)
        have HX := Lib.hid (hcs j (by rw [← HN.out]; omega))
        have HBB := Lib.hid hbb
        clear hcs hbb
        generalize l[j]?.getD 0 = x at HX
        have C := Lib.hid (window_at gf a h k wr HF.out)
        go_wp2_with fail
        refine C.out.mono ?_; rintro e w3 ⟨rfl, m3, rfl⟩
        have HF3 := Lib.hid (HF.out.drewN m3)
        have HP3 := Lib.hid (HP.out.drewN m3)
        have HB3 := Lib.hid (bdrewN HB.out m3)
        clear C HF HP HB
        generalize wr.drewN m3 = w3 at HF3 HP3 HB3 ⊢
        have C := Lib.hid (waits_any gp r b c w3 HP3.out)
        go_wp2_with fail
        refine C.out.mono ?_; rintro e wr ⟨rfl, m4, rfl⟩
        have HF := Lib.hid (HF3.out.drewN m4)
        have HP := Lib.hid (HP3.out.drewN m4)
        have HB := Lib.hid (bdrewN HB3.out m4)
        clear C HF3 HP3 HB3
        generalize w3.drewN m4 = wr at HF HP HB ⊢
        obtain ⟨q1, q2, q3, q4, q5, q6⟩ := HQ.out.nums
        obtain ⟨o1, o2, o3, o4⟩ := HO.out
        have hS := HS.out
        by_cases hba : b < a
        · have t3 : decide (b < a) = true := decide_eq_true hba
          by_cases hca : c < a - b
          · have t4 : decide (c < a - b) = true := decide_eq_true hca
            have hm0 : 0 ≤ c := by omega
            have C := Lib.hid (send_good gp r b c c wr HP.out HO.out (by omega) (by omega))
            rw [er_0] at C
            have tn : decide (c < 0) = false := decide_eq_false (by omega)
            go_wp2_with fail
            refine C.out.mono ?_; rintro e w4 ⟨rfl, hP4, hg4⟩
            obtain ⟨B4, hB4⟩ : ∃ B4, b + c = B4 := ⟨_, rfl⟩
            obtain ⟨C4, hC4⟩ : ∃ C4, c - c = C4 := ⟨_, rfl⟩
            rw [hB4, hC4] at hP4
            have HS4 := Lib.hid (show B4 + C4 = r by omega)
            have HK4 := Lib.hid (show 0 ≤ B4 ∧ 0 ≤ C4 by have := HO.out; unfold Window.Ok at this; omega)
            have HP4 := Lib.hid hP4
            have HF4 := Lib.hid (HF.out.more hg4 (fun e => HNE.out (Option.some.inj e)))
            have HB4 := Lib.hid (gbelow HB.out (Nat.le_refl _) hg4 HGP.out)
            have hx := (HB4.out.cell (p := ⟨bb, off + j, none⟩) HBB.out).trans HX.out
            clear C hP4 hg4 HP HF HB HO hB4 hC4 hm0 t3 t4 tn hba hca
            have hK4 := HK4.out
            have hS4 := HS4.out
            obtain ⟨k1, k2⟩ := hK4
            by_cases hx0 : x = 0
            · have t5 : (x == 0) = true := by rw [beq_iff_eq]; exact hx0
              clear hx0
              have C := Lib.hid (waits_any gp r B4 C4 w4 HP4.out)
              go_wp2_with fail
              refine C.out.mono ?_; rintro e w5 ⟨rfl, m5, rfl⟩
              have HP5 := Lib.hid (HP4.out.drewN m5)
              have HF5 := Lib.hid (HF4.out.drewN m5)
              have HB5 := Lib.hid (bdrewN HB4.out m5)
              clear C HP4 HF4 HB4 hx
              generalize w4.drewN m5 = w5 at HP5 HF5 HB5 ⊢
              have C := Lib.hid (eat_good gp r B4 C4 B4 w5 HP5.out (by unfold Window.Ok; omega) (by omega) (by omega))
              rw [er_0, show B4 - B4 = 0 by omega] at C
              go_wp2_with fail
              refine C.out.mono ?_; rintro e w6 ⟨rfl, hP6, hg6⟩
              have HP6 := Lib.hid hP6
              have HF6 := Lib.hid (HF5.out.more hg6 (fun e => HNE.out (Option.some.inj e)))
              have HB6 := Lib.hid (gbelow HB5.out (Nat.le_refl _) hg6 HGP.out)
              clear C hP6 hg6 HP5 HF5 HB5
              have C := Lib.hid (grant_any gp r 0 C4 w6 HP6.out (by unfold Window.Ok; omega))
              rw [show r - 0 - C4 = B4 by omega, show r - 0 = r by omega] at C
              go_wp2_with fail
              refine C.out.mono ?_; rintro e w7 ⟨rfl, hP7, hg7⟩
              have HP7 := Lib.hid hP7
              have HF7 := Lib.hid (HF6.out.more hg7 (fun e => HNE.out (Option.some.inj e)))
              have HB7 := Lib.hid (gbelow HB6.out (Nat.le_refl _) hg7 HGP.out)
              clear C hP7 hg7 HP6 HF6 HB6
              have C := Lib.hid (told_any gf _ w7 HF7.out HQ.out)
              have HQ8 := Lib.hid (ok_told HQ.out)
              go_wp2_with fail
              refine C.out.mono ?_; rintro e w8 ⟨rfl, hF8, hg8⟩
              have HF8 := Lib.hid hF8
              have HP8 := Lib.hid (HP7.out.more hg8 (fun e => HNE.out (Option.some.inj e).symm))
              have HB8 := Lib.hid (gbelow HB7.out (Nat.le_refl _) hg8 HGF.out)
              clear C hF8 hg8 HP7 HF7 HB7 HQ
              generalize Reno.told (a, h, k) = s8 at HF8 HQ8
              obtain ⟨a8, h8, k8⟩ := s8
              have C := Lib.hid (waits_any gp r 0 r w8 HP8.out)
              have t8 : (0 + r != r) = false := by rw [bne_eq_false_iff_eq]; omega
              have t9 : (r != r) = false := by rw [bne_eq_false_iff_eq]
              go_wp2_with fail
              refine C.out.mono ?_; rintro e w9 ⟨rfl, m9, rfl⟩
              go_wp2_with fail
              go_roundw
              case rel => exact ⟨j + 1, by first | rfl | go_num, by omega, 0, r, a8, h8, k8, Lib.hid (by omega), Lib.hid (by unfold Window.Ok; omega), HQ8, Lib.hid (HP8.out.drewN _), Lib.hid (HF8.out.drewN _), Lib.hid (bdrewN HB8.out _)⟩
              case measure => simp [intOf]; omega
            · have t5 : (x == 0) = false := by rw [beq_eq_false_iff_ne]; exact hx0
              by_cases hx1 : x = 1
              · have t6 : (x == 1) = true := by rw [beq_iff_eq]; exact hx1
                clear hx0 hx1
                have C := Lib.hid (lost_any gf _ w4 HF4.out HQ.out)
                have HQ8 := Lib.hid (ok_lost HQ.out)
                go_wp2_with fail
                refine C.out.mono ?_; rintro e w8 ⟨rfl, hF8, hg8⟩
                have HF8 := Lib.hid hF8
                have HP8 := Lib.hid (HP4.out.more hg8 (fun e => HNE.out (Option.some.inj e).symm))
                have HB8 := Lib.hid (gbelow HB4.out (Nat.le_refl _) hg8 HGF.out)
                clear C hF8 hg8 HP4 HF4 HB4 HQ hx
                generalize Reno.lost (a, h, k) = s8 at HF8 HQ8
                obtain ⟨a8, h8, k8⟩ := s8
                have C := Lib.hid (waits_any gp r B4 C4 w8 HP8.out)
                have t8 : (B4 + C4 != r) = false := by rw [bne_eq_false_iff_eq]; exact hS4
                have t9 : (r != r) = false := by rw [bne_eq_false_iff_eq]
                go_wp2_with fail
                refine C.out.mono ?_; rintro e w9 ⟨rfl, m9, rfl⟩
                go_wp2_with fail
                go_roundw
                case rel => exact ⟨j + 1, by first | rfl | go_num, by omega, B4, C4, a8, h8, k8, HS4, Lib.hid (by unfold Window.Ok; omega), HQ8, Lib.hid (HP8.out.drewN _), Lib.hid (HF8.out.drewN _), Lib.hid (bdrewN HB8.out _)⟩
                case measure => simp [intOf]; omega
              · have t6 : (x == 1) = false := by rw [beq_eq_false_iff_ne]; exact hx1
                clear hx0 hx1
                have C := Lib.hid (late_any gf _ w4 HF4.out HQ.out)
                have HQ8 := Lib.hid (ok_late HQ.out)
                go_wp2_with fail
                refine C.out.mono ?_; rintro e w8 ⟨rfl, hF8, hg8⟩
                have HF8 := Lib.hid hF8
                have HP8 := Lib.hid (HP4.out.more hg8 (fun e => HNE.out (Option.some.inj e).symm))
                have HB8 := Lib.hid (gbelow HB4.out (Nat.le_refl _) hg8 HGF.out)
                clear C hF8 hg8 HP4 HF4 HB4 HQ hx
                generalize Reno.late (a, h, k) = s8 at HF8 HQ8
                obtain ⟨a8, h8, k8⟩ := s8
                have C := Lib.hid (waits_any gp r B4 C4 w8 HP8.out)
                have t8 : (B4 + C4 != r) = false := by rw [bne_eq_false_iff_eq]; exact hS4
                have t9 : (r != r) = false := by rw [bne_eq_false_iff_eq]
                go_wp2_with fail
                refine C.out.mono ?_; rintro e w9 ⟨rfl, m9, rfl⟩
                go_wp2_with fail
                go_roundw
                case rel => exact ⟨j + 1, by first | rfl | go_num, by omega, B4, C4, a8, h8, k8, HS4, Lib.hid (by unfold Window.Ok; omega), HQ8, Lib.hid (HP8.out.drewN _), Lib.hid (HF8.out.drewN _), Lib.hid (bdrewN HB8.out _)⟩
                case measure => simp [intOf]; omega
          · have t4 : decide (c < a - b) = false := decide_eq_false hca
            have hm0 : 0 ≤ (a - b) := by omega
            have C := Lib.hid (send_good gp r b c (a - b) wr HP.out HO.out (by omega) (by omega))
            rw [er_0] at C
            have tn : decide (a - b < 0) = false := decide_eq_false (by omega)
            go_wp2_with fail
            refine C.out.mono ?_; rintro e w4 ⟨rfl, hP4, hg4⟩
            obtain ⟨B4, hB4⟩ : ∃ B4, b + (a - b) = B4 := ⟨_, rfl⟩
            obtain ⟨C4, hC4⟩ : ∃ C4, c - (a - b) = C4 := ⟨_, rfl⟩
            rw [hB4, hC4] at hP4
            have HS4 := Lib.hid (show B4 + C4 = r by omega)
            have HK4 := Lib.hid (show 0 ≤ B4 ∧ 0 ≤ C4 by have := HO.out; unfold Window.Ok at this; omega)
            have HP4 := Lib.hid hP4
            have HF4 := Lib.hid (HF.out.more hg4 (fun e => HNE.out (Option.some.inj e)))
            have HB4 := Lib.hid (gbelow HB.out (Nat.le_refl _) hg4 HGP.out)
            have hx := (HB4.out.cell (p := ⟨bb, off + j, none⟩) HBB.out).trans HX.out
            clear C hP4 hg4 HP HF HB HO hB4 hC4 hm0 t3 t4 tn hba hca
            have hK4 := HK4.out
            have hS4 := HS4.out
            obtain ⟨k1, k2⟩ := hK4
            by_cases hx0 : x = 0
            · have t5 : (x == 0) = true := by rw [beq_iff_eq]; exact hx0
              clear hx0
              have C := Lib.hid (waits_any gp r B4 C4 w4 HP4.out)
              go_wp2_with fail
              refine C.out.mono ?_; rintro e w5 ⟨rfl, m5, rfl⟩
              have HP5 := Lib.hid (HP4.out.drewN m5)
              have HF5 := Lib.hid (HF4.out.drewN m5)
              have HB5 := Lib.hid (bdrewN HB4.out m5)
              clear C HP4 HF4 HB4 hx
              generalize w4.drewN m5 = w5 at HP5 HF5 HB5 ⊢
              have C := Lib.hid (eat_good gp r B4 C4 B4 w5 HP5.out (by unfold Window.Ok; omega) (by omega) (by omega))
              rw [er_0, show B4 - B4 = 0 by omega] at C
              go_wp2_with fail
              refine C.out.mono ?_; rintro e w6 ⟨rfl, hP6, hg6⟩
              have HP6 := Lib.hid hP6
              have HF6 := Lib.hid (HF5.out.more hg6 (fun e => HNE.out (Option.some.inj e)))
              have HB6 := Lib.hid (gbelow HB5.out (Nat.le_refl _) hg6 HGP.out)
              clear C hP6 hg6 HP5 HF5 HB5
              have C := Lib.hid (grant_any gp r 0 C4 w6 HP6.out (by unfold Window.Ok; omega))
              rw [show r - 0 - C4 = B4 by omega, show r - 0 = r by omega] at C
              go_wp2_with fail
              refine C.out.mono ?_; rintro e w7 ⟨rfl, hP7, hg7⟩
              have HP7 := Lib.hid hP7
              have HF7 := Lib.hid (HF6.out.more hg7 (fun e => HNE.out (Option.some.inj e)))
              have HB7 := Lib.hid (gbelow HB6.out (Nat.le_refl _) hg7 HGP.out)
              clear C hP7 hg7 HP6 HF6 HB6
              have C := Lib.hid (told_any gf _ w7 HF7.out HQ.out)
              have HQ8 := Lib.hid (ok_told HQ.out)
              go_wp2_with fail
              refine C.out.mono ?_; rintro e w8 ⟨rfl, hF8, hg8⟩
              have HF8 := Lib.hid hF8
              have HP8 := Lib.hid (HP7.out.more hg8 (fun e => HNE.out (Option.some.inj e).symm))
              have HB8 := Lib.hid (gbelow HB7.out (Nat.le_refl _) hg8 HGF.out)
              clear C hF8 hg8 HP7 HF7 HB7 HQ
              generalize Reno.told (a, h, k) = s8 at HF8 HQ8
              obtain ⟨a8, h8, k8⟩ := s8
              have C := Lib.hid (waits_any gp r 0 r w8 HP8.out)
              have t8 : (0 + r != r) = false := by rw [bne_eq_false_iff_eq]; omega
              have t9 : (r != r) = false := by rw [bne_eq_false_iff_eq]
              go_wp2_with fail
              refine C.out.mono ?_; rintro e w9 ⟨rfl, m9, rfl⟩
              go_wp2_with fail
              go_roundw
              case rel => exact ⟨j + 1, by first | rfl | go_num, by omega, 0, r, a8, h8, k8, Lib.hid (by omega), Lib.hid (by unfold Window.Ok; omega), HQ8, Lib.hid (HP8.out.drewN _), Lib.hid (HF8.out.drewN _), Lib.hid (bdrewN HB8.out _)⟩
              case measure => simp [intOf]; omega
            · have t5 : (x == 0) = false := by rw [beq_eq_false_iff_ne]; exact hx0
              by_cases hx1 : x = 1
              · have t6 : (x == 1) = true := by rw [beq_iff_eq]; exact hx1
                clear hx0 hx1
                have C := Lib.hid (lost_any gf _ w4 HF4.out HQ.out)
                have HQ8 := Lib.hid (ok_lost HQ.out)
                go_wp2_with fail
                refine C.out.mono ?_; rintro e w8 ⟨rfl, hF8, hg8⟩
                have HF8 := Lib.hid hF8
                have HP8 := Lib.hid (HP4.out.more hg8 (fun e => HNE.out (Option.some.inj e).symm))
                have HB8 := Lib.hid (gbelow HB4.out (Nat.le_refl _) hg8 HGF.out)
                clear C hF8 hg8 HP4 HF4 HB4 HQ hx
                generalize Reno.lost (a, h, k) = s8 at HF8 HQ8
                obtain ⟨a8, h8, k8⟩ := s8
                have C := Lib.hid (waits_any gp r B4 C4 w8 HP8.out)
                have t8 : (B4 + C4 != r) = false := by rw [bne_eq_false_iff_eq]; exact hS4
                have t9 : (r != r) = false := by rw [bne_eq_false_iff_eq]
                go_wp2_with fail
                refine C.out.mono ?_; rintro e w9 ⟨rfl, m9, rfl⟩
                go_wp2_with fail
                go_roundw
                case rel => exact ⟨j + 1, by first | rfl | go_num, by omega, B4, C4, a8, h8, k8, HS4, Lib.hid (by unfold Window.Ok; omega), HQ8, Lib.hid (HP8.out.drewN _), Lib.hid (HF8.out.drewN _), Lib.hid (bdrewN HB8.out _)⟩
                case measure => simp [intOf]; omega
              · have t6 : (x == 1) = false := by rw [beq_eq_false_iff_ne]; exact hx1
                clear hx0 hx1
                have C := Lib.hid (late_any gf _ w4 HF4.out HQ.out)
                have HQ8 := Lib.hid (ok_late HQ.out)
                go_wp2_with fail
                refine C.out.mono ?_; rintro e w8 ⟨rfl, hF8, hg8⟩
                have HF8 := Lib.hid hF8
                have HP8 := Lib.hid (HP4.out.more hg8 (fun e => HNE.out (Option.some.inj e).symm))
                have HB8 := Lib.hid (gbelow HB4.out (Nat.le_refl _) hg8 HGF.out)
                clear C hF8 hg8 HP4 HF4 HB4 HQ hx
                generalize Reno.late (a, h, k) = s8 at HF8 HQ8
                obtain ⟨a8, h8, k8⟩ := s8
                have C := Lib.hid (waits_any gp r B4 C4 w8 HP8.out)
                have t8 : (B4 + C4 != r) = false := by rw [bne_eq_false_iff_eq]; exact hS4
                have t9 : (r != r) = false := by rw [bne_eq_false_iff_eq]
                go_wp2_with fail
                refine C.out.mono ?_; rintro e w9 ⟨rfl, m9, rfl⟩
                go_wp2_with fail
                go_roundw
                case rel => exact ⟨j + 1, by first | rfl | go_num, by omega, B4, C4, a8, h8, k8, HS4, Lib.hid (by unfold Window.Ok; omega), HQ8, Lib.hid (HP8.out.drewN _), Lib.hid (HF8.out.drewN _), Lib.hid (bdrewN HB8.out _)⟩
                case measure => simp [intOf]; omega
        · have t3 : decide (b < a) = false := decide_eq_false hba
          have t4 : decide (c < 0) = false := decide_eq_false (by omega)
          have hm0 : 0 ≤ 0 := by omega
          have C := Lib.hid (send_good gp r b c 0 wr HP.out HO.out (by omega) (by omega))
          rw [er_0] at C
          go_wp2_with fail
          refine C.out.mono ?_; rintro e w4 ⟨rfl, hP4, hg4⟩
          obtain ⟨B4, hB4⟩ : ∃ B4, b + 0 = B4 := ⟨_, rfl⟩
          obtain ⟨C4, hC4⟩ : ∃ C4, c - 0 = C4 := ⟨_, rfl⟩
          rw [hB4, hC4] at hP4
          have HS4 := Lib.hid (show B4 + C4 = r by omega)
          have HK4 := Lib.hid (show 0 ≤ B4 ∧ 0 ≤ C4 by have := HO.out; unfold Window.Ok at this; omega)
          have HP4 := Lib.hid hP4
          have HF4 := Lib.hid (HF.out.more hg4 (fun e => HNE.out (Option.some.inj e)))
          have HB4 := Lib.hid (gbelow HB.out (Nat.le_refl _) hg4 HGP.out)
          have hx := (HB4.out.cell (p := ⟨bb, off + j, none⟩) HBB.out).trans HX.out
          clear C hP4 hg4 HP HF HB HO hB4 hC4 hm0 t3 t4 hba
          have hK4 := HK4.out
          have hS4 := HS4.out
          obtain ⟨k1, k2⟩ := hK4
          by_cases hx0 : x = 0
          · have t5 : (x == 0) = true := by rw [beq_iff_eq]; exact hx0
            clear hx0
            have C := Lib.hid (waits_any gp r B4 C4 w4 HP4.out)
            go_wp2_with fail
            refine C.out.mono ?_; rintro e w5 ⟨rfl, m5, rfl⟩
            have HP5 := Lib.hid (HP4.out.drewN m5)
            have HF5 := Lib.hid (HF4.out.drewN m5)
            have HB5 := Lib.hid (bdrewN HB4.out m5)
            clear C HP4 HF4 HB4 hx
            generalize w4.drewN m5 = w5 at HP5 HF5 HB5 ⊢
            have C := Lib.hid (eat_good gp r B4 C4 B4 w5 HP5.out (by unfold Window.Ok; omega) (by omega) (by omega))
            rw [er_0, show B4 - B4 = 0 by omega] at C
            go_wp2_with fail
            refine C.out.mono ?_; rintro e w6 ⟨rfl, hP6, hg6⟩
            have HP6 := Lib.hid hP6
            have HF6 := Lib.hid (HF5.out.more hg6 (fun e => HNE.out (Option.some.inj e)))
            have HB6 := Lib.hid (gbelow HB5.out (Nat.le_refl _) hg6 HGP.out)
            clear C hP6 hg6 HP5 HF5 HB5
            have C := Lib.hid (grant_any gp r 0 C4 w6 HP6.out (by unfold Window.Ok; omega))
            rw [show r - 0 - C4 = B4 by omega, show r - 0 = r by omega] at C
            go_wp2_with fail
            refine C.out.mono ?_; rintro e w7 ⟨rfl, hP7, hg7⟩
            have HP7 := Lib.hid hP7
            have HF7 := Lib.hid (HF6.out.more hg7 (fun e => HNE.out (Option.some.inj e)))
            have HB7 := Lib.hid (gbelow HB6.out (Nat.le_refl _) hg7 HGP.out)
            clear C hP7 hg7 HP6 HF6 HB6
            have C := Lib.hid (told_any gf _ w7 HF7.out HQ.out)
            have HQ8 := Lib.hid (ok_told HQ.out)
            go_wp2_with fail
            refine C.out.mono ?_; rintro e w8 ⟨rfl, hF8, hg8⟩
            have HF8 := Lib.hid hF8
            have HP8 := Lib.hid (HP7.out.more hg8 (fun e => HNE.out (Option.some.inj e).symm))
            have HB8 := Lib.hid (gbelow HB7.out (Nat.le_refl _) hg8 HGF.out)
            clear C hF8 hg8 HP7 HF7 HB7 HQ
            generalize Reno.told (a, h, k) = s8 at HF8 HQ8
            obtain ⟨a8, h8, k8⟩ := s8
            have C := Lib.hid (waits_any gp r 0 r w8 HP8.out)
            have t8 : (0 + r != r) = false := by rw [bne_eq_false_iff_eq]; omega
            have t9 : (r != r) = false := by rw [bne_eq_false_iff_eq]
            go_wp2_with fail
            refine C.out.mono ?_; rintro e w9 ⟨rfl, m9, rfl⟩
            go_wp2_with fail
            go_roundw
            case rel => exact ⟨j + 1, by first | rfl | go_num, by omega, 0, r, a8, h8, k8, Lib.hid (by omega), Lib.hid (by unfold Window.Ok; omega), HQ8, Lib.hid (HP8.out.drewN _), Lib.hid (HF8.out.drewN _), Lib.hid (bdrewN HB8.out _)⟩
            case measure => simp [intOf]; omega
          · have t5 : (x == 0) = false := by rw [beq_eq_false_iff_ne]; exact hx0
            by_cases hx1 : x = 1
            · have t6 : (x == 1) = true := by rw [beq_iff_eq]; exact hx1
              clear hx0 hx1
              have C := Lib.hid (lost_any gf _ w4 HF4.out HQ.out)
              have HQ8 := Lib.hid (ok_lost HQ.out)
              go_wp2_with fail
              refine C.out.mono ?_; rintro e w8 ⟨rfl, hF8, hg8⟩
              have HF8 := Lib.hid hF8
              have HP8 := Lib.hid (HP4.out.more hg8 (fun e => HNE.out (Option.some.inj e).symm))
              have HB8 := Lib.hid (gbelow HB4.out (Nat.le_refl _) hg8 HGF.out)
              clear C hF8 hg8 HP4 HF4 HB4 HQ hx
              generalize Reno.lost (a, h, k) = s8 at HF8 HQ8
              obtain ⟨a8, h8, k8⟩ := s8
              have C := Lib.hid (waits_any gp r B4 C4 w8 HP8.out)
              have t8 : (B4 + C4 != r) = false := by rw [bne_eq_false_iff_eq]; exact hS4
              have t9 : (r != r) = false := by rw [bne_eq_false_iff_eq]
              go_wp2_with fail
              refine C.out.mono ?_; rintro e w9 ⟨rfl, m9, rfl⟩
              go_wp2_with fail
              go_roundw
              case rel => exact ⟨j + 1, by first | rfl | go_num, by omega, B4, C4, a8, h8, k8, HS4, Lib.hid (by unfold Window.Ok; omega), HQ8, Lib.hid (HP8.out.drewN _), Lib.hid (HF8.out.drewN _), Lib.hid (bdrewN HB8.out _)⟩
              case measure => simp [intOf]; omega
            · have t6 : (x == 1) = false := by rw [beq_eq_false_iff_ne]; exact hx1
              clear hx0 hx1
              have C := Lib.hid (late_any gf _ w4 HF4.out HQ.out)
              have HQ8 := Lib.hid (ok_late HQ.out)
              go_wp2_with fail
              refine C.out.mono ?_; rintro e w8 ⟨rfl, hF8, hg8⟩
              have HF8 := Lib.hid hF8
              have HP8 := Lib.hid (HP4.out.more hg8 (fun e => HNE.out (Option.some.inj e).symm))
              have HB8 := Lib.hid (gbelow HB4.out (Nat.le_refl _) hg8 HGF.out)
              clear C hF8 hg8 HP4 HF4 HB4 HQ hx
              generalize Reno.late (a, h, k) = s8 at HF8 HQ8
              obtain ⟨a8, h8, k8⟩ := s8
              have C := Lib.hid (waits_any gp r B4 C4 w8 HP8.out)
              have t8 : (B4 + C4 != r) = false := by rw [bne_eq_false_iff_eq]; exact hS4
              have t9 : (r != r) = false := by rw [bne_eq_false_iff_eq]
              go_wp2_with fail
              refine C.out.mono ?_; rintro e w9 ⟨rfl, m9, rfl⟩
              go_wp2_with fail
              go_roundw
              case rel => exact ⟨j + 1, by first | rfl | go_num, by omega, B4, C4, a8, h8, k8, HS4, Lib.hid (by unfold Window.Ok; omega), HQ8, Lib.hid (HP8.out.drewN _), Lib.hid (HF8.out.drewN _), Lib.hid (bdrewN HB8.out _)⟩
              case measure => simp [intOf]; omega
      · have t2 : decide ((j : Int) < 60) = false := decide_eq_false (by omega)
        go_wp2_with fail
        go_ret
        exact ⟨rfl, HB.out⟩
    · have t1 : decide ((j : Int) < (n : Int)) = false := decide_eq_false (by omega)
      go_wp2_with fail
      go_ret
      exact ⟨rfl, HB.out⟩

theorem reads : Try.f6.params.toList.all (fun t => Try.prog.readableRec t && decide (t < Try.prog.types.size)) = true := by kernel_rfl

theorem contract (H : Type) (enc : TypeId × Value → H) (W : World) (base : Nat) (args : Array Value) (ds gs : List (DataW H)) (before : List MemPlace)
    (hval : ∀ (j : Nat) t v, Try.f6.params[j]? = some t → args[j]? = some v → Value.okWide Try.prog W .any base t v)
    (hW : DataW.Whole enc Try.prog Try.f6.params.toList Rows.topRoomSpec.vars false W args.toList ds gs before) :
    Calls Try.prog 6 args W fun e W' => ∃ v, e = .returned v ∧ Rows.topRoomSpec.post enc Try.prog Try.f6 false true false false W args v W' := by
  have hW' := hW
  obtain ⟨p, q, hA0, hV, rfl, hfz, hnd⟩ := hW
  have hA : DataW.TrodAll enc Try.prog W 0 (fun _ => true) true Try.f6.params.toList args.toList ds p := hA0
  have hlt := hA.lt
  rw [Try.params6] at hA hval
  obtain ⟨v0, vs0, d0, ds0, p0, q0, hargs, rfl, rfl, h0, r0⟩ := trodAll_cons hA
  obtain ⟨v1, vs1, d1, ds1, p1, q1, hvs1, rfl, rfl, h1, r1⟩ := trodAll_cons r0
  obtain ⟨hvsn, rfl, rfl⟩ := trodAll_nil r1
  simp only [hvsn, hvs1] at hargs
  obtain rfl : args = #[v0, v1] := by cases args; simp_all
  obtain ⟨rfl, rfl⟩ := trodVars_none hV
  clear hA0
  obtain ⟨a0, rfl, rfl, rfl, w0⟩ := open_int Try.underlying3 (hval 0 3 v0 rfl rfl) h0
  have b0 := bounds_int w0
  obtain ⟨p1a, cap1, l1, rfl, i1⟩ := open_intsl Try.underlying22 Try.underlying3 (by kernel_rfl) (hval 1 22 v1 rfl rfl) h1 (fun x hx => hlt x (by simp [hx]))
  exact law_post 4 laid reads rfl Try.underlying4 rfl hW' ⟨rfl, rfl, rfl⟩ (by
    by_cases h : 0 ≤ a0 ∧ a0 ≤ 100
    · exact law_good a0 p1a cap1 _ l1 W h rfl i1
    · exact law_bad a0 _ _ _ W h)

set_option maxRecDepth 100000 in
theorem lifted (os : Os) (started : os.Started) (H : Type) (enc : TypeId × Value → H) :
    ReturnsInHanded {} Try.checked os 6 .any (Rows.topRoomSpec.pre6 enc Try.prog Try.f6 Rows.topRoomRow.domain false) (Rows.topRoomSpec.post enc Try.prog Try.f6 false true false false) := by
  refine returnsInHanded_of_change (C := Try.checked) own started (by kernel_rfl) Try.func6
    (ChangeSpec.witness6 (enc := enc) (C := Try.checked) false ⟨#[], #[.int .i64 0, .slice none 0 0], []⟩ 8 (by kernel_rfl) (by kernel_rfl) (by kernel_rfl) (by kernel_rfl)) ?_
  intro W base args ds gs before hval hW _ _
  exact contract H enc W base args ds gs before hval hW

theorem proved : Rows.TopRoomSaid :=
  OpenClaim.holds_of_wide 6 Try.f6 rfl rfl rfl rfl rfl rfl rfl ⟨rfl, rfl, rfl, rfl, rfl⟩ rfl rfl rfl rfl rfl (by kernel_rfl) Try.func6 (by kernel_rfl)
    (of_decide_eq_true (by kernel_rfl)) (by unfold Func.isWrapper; first | (rw [if_pos (by decide +kernel)]; kernel_rfl) | (rw [if_neg (by decide +kernel)]; exact ⟨rfl, rfl⟩))
    (fun os started H enc _ => lifted os started H enc)
end Go.Proofs.Ytbemlbjnjpjlhaa.TopRoomL
