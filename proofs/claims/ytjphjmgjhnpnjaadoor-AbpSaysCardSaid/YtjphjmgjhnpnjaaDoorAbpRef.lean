/- The document's answer for the alternating bit protocol: contracts of Sent and Abp. No statement is proved here. -/
import Derived.Test.YtjphjmgjhnpnjaaDoorAbp2
import Derived.Test.YtjphjmgjhnpnjaaDoorAll
namespace Go.Proofs.YtjphjmgjhnpnjaaDoor.Abp
open Go.ChangeShapes Go.WideShapes Go.ChangeAt Go.RowKit Go.Proofs.YtjphjmgjhnpnjaaDoor.Kit Go.Proofs.YtjphjmgjhnpnjaaDoor.App Go.Proofs.YtjphjmgjhnpnjaaDoor.Cells Go.Proofs.YtjphjmgjhnpnjaaDoor.Fate Go.Proofs.YtjphjmgjhnpnjaaDoor.AbpMath
set_option linter.unusedVariables false
set_option maxRecDepth 20000

theorem fits_within (l : List Int) : fits l = within 0 1000 l := rfl
set_option maxHeartbeats 1000000 in
theorem sent_any (p q : Option Addr) (cap cq n m : Nat) (l : List Int) (w : World) (hn : n = l.length) (hi : Ints w p cap l) (hm : m ≤ 9223372036854775807) (c : Int) (hc : c = bad l m) :
    Calls Tryd.prog 4 #[.slice p n cap, .slice q m cq] w fun e w' => e = .returned (.int .i64 c) ∧ w' = w := by
  have hlen := hi.len_le
  have HI := Lib.hid hi
  have HN := Lib.hid hn
  clear hi
  rw [← hn] at hlen
  unfold bad at hc
  rw [← hn] at hc
  clear hn
  by_cases h1 : 20 < n
  · have t1 : decide ((n : Int) > 20) = true := decide_eq_true (by omega)
    rw [if_pos (.inl h1)] at hc
    subst hc
    go_enter Tryd.func4, Tryd.ntmps4
    go_wp2_with fail
    go_ret
    exact ⟨rfl, rfl⟩
  · have t1 : decide ((n : Int) > 20) = false := decide_eq_false (by omega)
    by_cases h2 : 200 < m
    · have t2 : decide ((m : Int) > 200) = true := decide_eq_true (by omega)
      rw [if_pos (.inr h2)] at hc
      subst hc
      go_enter Tryd.func4, Tryd.ntmps4
      go_wp2_with fail
      go_ret
      exact ⟨rfl, rfl⟩
    · have t2 : decide ((m : Int) > 200) = false := decide_eq_false (by omega)
      rw [if_neg (by omega), fits_within] at hc
      obtain ⟨R, hR⟩ : ∃ R, R = within 0 1000 l := ⟨_, rfl⟩
      rw [← hR] at hc
      have CT := Lib.hid (fun W (h : Ints W p cap l) => all_any 0 1000 p cap n l W HN.out h R hR)
      clear hR
      cases R with
      | true =>
        have hc0 : c = 0 := by rw [hc]; rfl
        clear hc
        subst hc0
        go_enter Tryd.func4, Tryd.ntmps4
        go_wp2_with fail
        refine (CT.out _ HI.out).mono ?_; rintro e w1 ⟨rfl, rfl⟩
        go_wp2_with fail
        go_ret
        exact ⟨rfl, rfl⟩
      | false =>
        have hc0 : c = 1 := by rw [hc]; rfl
        clear hc
        subst hc0
        go_enter Tryd.func4, Tryd.ntmps4
        go_wp2_with fail
        refine (CT.out _ HI.out).mono ?_; rintro e w1 ⟨rfl, rfl⟩
        go_wp2_with fail
        go_ret
        exact ⟨rfl, rfl⟩

set_option maxHeartbeats 4000000 in
theorem ref_abp (p q : Option Addr) (cap cq n m : Nat) (l : List Int) (fs : List Fat) (w : World) (hn : n = l.length) (hm : m = fs.length) (hi : Ints w p cap l) (hf : CI lay w q cq fs) (h0 : bad l m = 0) (K G : Nat) (hr : (K, G) = AbpMath.run n fs 0 0) :
    Calls Tryd.prog 7 #[.slice p n cap, .slice q m cq] w fun e w' => ∃ v, e = .returned (.tuple #[v, .int .i64 (K : Nat)]) ∧ OwnI w' w.heap.size v (l.take G) ∧ Below w.heap.size w w' := by
  obtain ⟨hl20, hm200, hfit⟩ := (bad_zero l m).1 h0
  rw [← hn] at hl20
  have HI := Lib.hid hi
  have HF := Lib.hid hf
  have HN := Lib.hid hn
  have HM := Lib.hid hm
  have HR := Lib.hid hr
  have R0 := Lib.hid (show AbpMath.run n (fs.drop 0) 0 0 = (K, G) from hr.symm)
  clear hi hf hn hm hr h0 hfit
  go_enter Tryd.func7, Tryd.ntmps7
  go_wp2_with fail
  go_loopw [6, 7, 8] (fun gv kv iv wr => ∃ (i k g : Nat), i ≤ m ∧ k ≤ n ∧ g ≤ n ∧ g ≤ k + 1 ∧ kv = .int .i64 k ∧ iv = .int .i64 i ∧ Hid (k ≤ g) ∧ OwnI wr w.heap.size gv (l.take g) ∧ Hid (AbpMath.run n (fs.drop i) k g = (K, G)) ∧ Below w.heap.size w wr) (fun _ _ iv _ => m - (intOf iv).toNat)
  case atStart => exact ⟨0, 0, 0, Nat.zero_le _, Nat.zero_le _, Nat.zero_le _, by omega, rfl, rfl, Nat.le_refl _, OwnI.nil _ _, R0.out, brefl _⟩
  case round =>
    obtain ⟨i, k, g, him, hkn, hgn, hgk, rfl, rfl, HKG, hown, HRUN, hB⟩ := hrel
    have hBs := hB.size
    have hgl : (l.take g).length = g := by rw [List.length_take, ← HN.out]; omega
    by_cases hlt : i < m
    · have hil : i < fs.length := by rw [← HM.out]; exact hlt
      obtain ⟨b, off, rfl, hbw, hcell⟩ := fate_at HF.out (by omega)
      obtain ⟨x, hx⟩ : ∃ x, fs[i]? = some x := ⟨_, List.getElem?_eq_getElem hil⟩
      have HCELL := Lib.hid (fun W (hb : Below w.heap.size w W) => hcell W hb i x hx)
      obtain ⟨e1, e2⟩ := hcell wr hB i x hx
      have HD := Lib.hid (show AbpMath.run n (x :: fs.drop (i + 1)) k g = (K, G) by rw [← drop_at hx]; exact HRUN.out)
      clear hcell hx hil HRUN
      by_cases hk : k = n
      · have HE := Lib.hid (show (n, g) = (K, G) by rw [← HD.out, hk, run_end])
        have t0 : decide ((k : Int) < (n : Int)) = false := decide_eq_false (by omega)
        clear HD HKG hgl
        obtain ⟨x1, x2⟩ := x
        subst hk
        go_wp2_with fail
        go_ret2
        refine ⟨_, by rw [← (Prod.mk.inj HE.out).1]; rfl, ?_, hB⟩
        rw [← (Prod.mk.inj HE.out).2]; exact hown
      · have t0 : decide ((k : Int) < (n : Int)) = true := decide_eq_true (by omega)
        have HKN := Lib.hid hk
        have hkn' : k < n := by omega
        clear hk hkn
        obtain ⟨x1, x2⟩ := x
        cases x1 with
        | true =>
          have HD2 := Lib.hid (show AbpMath.run n (fs.drop (i + 1)) k g = (K, G) by rw [← run_lost (f := ⟨true, x2⟩) HKN.out rfl]; exact HD.out)
          clear HD hgl
          go_wp2_with fail
          go_roundw
          case rel => exact ⟨i + 1, k, g, by omega, by omega, hgn, hgk, rfl, by first | rfl | go_num, HKG, hown, HD2.out, hB⟩
          case measure => simp [intOf]; omega
        | false =>
          obtain ⟨b1, off1, rfl, hb1w, hc1⟩ := HI.out.2.2.2 (by rw [← HN.out]; omega)
          have hd := hc1 k (by rw [← HN.out]; exact hkn')
          have hxk := (hB.cell (p := ⟨b1, off1 + k, none⟩) hb1w).trans hd
          have hxw := HI.out.2.2.1 k
          have htm := take_more (l := l) (k := k) (by rw [← HN.out]; exact hkn')
          obtain ⟨y, hy⟩ : ∃ y, l[k]?.getD 0 = y := ⟨_, rfl⟩
          rw [hy] at hxk hxw htm
          have HT := Lib.hid htm
          clear hc1 hd hy htm
          by_cases hg : g = k
          · subst hg
            obtain ⟨out, ho⟩ : ∃ out, l.take g = out := ⟨_, rfl⟩
            rw [ho] at hown hgl HT
            obtain ⟨vp, vc, rfl, hvi⟩ := hown.form
            have HGL := Lib.hid hgl
            rw [hgl] at hown ⊢
            have hgl2 : out.length ≤ 20 := by omega
            have t1 : (((g : Int).tmod 2) == ((g : Int).tmod 2)) = true := by simp
            clear HKG ho hvi hgl
            cases x2 with
            | true =>
              have HD2 := Lib.hid (show AbpMath.run n (fs.drop (i + 1)) g (g + 1) = (K, G) by rw [← run_back (f := ⟨false, true⟩) HKN.out rfl rfl]; exact HD.out)
              clear HD HKN
              go_wp2_with (at_builtin
                           refine wp_app rfl (.tmp 32) (.tmp 37) rfl w.heap.size _ out (some ⟨wr.heap.size, 0, none⟩) 1 1 [y] rfl (hown.alloc _) rfl rfl (Ints.one wr y hxw) (by rw [List.length_singleton]; omega) (Nat.le_trans hBs (by simp)) ?_
                           intro v1 wa hown1 hg1 hat1
                           have hb1 : Below w.heap.size w wa := below_app (balloc hB _) (hown.alloc _) hg1 (Nat.le_trans hBs (by simp))
                           have f2 : wa.cell? ⟨b, off + i * 2 + 1, none⟩ = some (.bool true) := (HCELL.out wa hb1).2
                           clear hat1 hg1)
              go_roundw
              case rel => exact ⟨i + 1, g, g + 1, by omega, by omega, by omega, by omega, by first | rfl | go_num, by first | rfl | go_num, by unfold Hid; omega, by rw [← HT.out]; exact hown1, HD2.out, hb1⟩
              case measure => simp [intOf]; omega
            | false =>
              have HD2 := Lib.hid (show AbpMath.run n (fs.drop (i + 1)) (g + 1) (g + 1) = (K, G) by rw [← run_fine (f := ⟨false, false⟩) HKN.out rfl rfl]; exact HD.out)
              clear HD HKN
              go_wp2_with (at_builtin
                           refine wp_app rfl (.tmp 32) (.tmp 37) rfl w.heap.size _ out (some ⟨wr.heap.size, 0, none⟩) 1 1 [y] rfl (hown.alloc _) rfl rfl (Ints.one wr y hxw) (by rw [List.length_singleton]; omega) (Nat.le_trans hBs (by simp)) ?_
                           intro v1 wa hown1 hg1 hat1
                           have hb1 : Below w.heap.size w wa := below_app (balloc hB _) (hown.alloc _) hg1 (Nat.le_trans hBs (by simp))
                           have f2 : wa.cell? ⟨b, off + i * 2 + 1, none⟩ = some (.bool false) := (HCELL.out wa hb1).2
                           clear hat1 hg1)
              go_roundw
              case rel => exact ⟨i + 1, g + 1, g + 1, by omega, by omega, by omega, by omega, by first | rfl | go_num, by first | rfl | go_num, Nat.le_refl _, by rw [← HT.out]; exact hown1, HD2.out, hb1⟩
              case measure => simp [intOf]; omega
          · have hgk1 : g = k + 1 := by have := HKG.out; omega
            obtain ⟨vp, vc, rfl, hvi⟩ := hown.form
            rw [hgl] at hown ⊢
            subst hgk1
            have HOW := Lib.hid hown
            have t1 : (((k : Int).tmod 2) == (((k : Int) + 1).tmod 2)) = false := by rw [beq_eq_false_iff_ne, Int.tmod_eq_emod_of_nonneg (by omega), Int.tmod_eq_emod_of_nonneg (by omega)]; omega
            clear HKG hg hvi hgl hown
            cases x2 with
            | true =>
              have HD2 := Lib.hid (show AbpMath.run n (fs.drop (i + 1)) k (k + 1) = (K, G) by rw [← run_back (f := ⟨false, true⟩) HKN.out rfl rfl]; exact HD.out)
              clear HD HKN HT
              go_wp2_with fail
              go_roundw
              case rel => exact ⟨i + 1, k, k + 1, by omega, by omega, by omega, by omega, rfl, by first | rfl | go_num, by unfold Hid; omega, HOW.out, HD2.out, hB⟩
              case measure => simp [intOf]; omega
            | false =>
              have HD2 := Lib.hid (show AbpMath.run n (fs.drop (i + 1)) (k + 1) (k + 1) = (K, G) by rw [← run_fine (f := ⟨false, false⟩) HKN.out rfl rfl]; exact HD.out)
              clear HD HKN HT
              go_wp2_with fail
              go_roundw
              case rel => exact ⟨i + 1, k + 1, k + 1, by omega, by omega, by omega, by omega, by first | rfl | go_num, by first | rfl | go_num, Nat.le_refl _, HOW.out, HD2.out, hB⟩
              case measure => simp [intOf]; omega
    · obtain rfl : i = m := by omega
      have HE := Lib.hid (show (k, g) = (K, G) by
        have := HRUN.out
        rw [List.drop_eq_nil_of_le (by rw [HM.out]; exact Nat.le_refl _)] at this
        exact this)
      clear HRUN HKG hgl
      go_wp2_with fail
      go_ret2
      refine ⟨_, by rw [← (Prod.mk.inj HE.out).1]; rfl, ?_, hB⟩
      rw [← (Prod.mk.inj HE.out).2]; exact hown
end Go.Proofs.YtjphjmgjhnpnjaaDoor.Abp
