/- RpfTree: over a tree each one is told once, and as many copies are sent as there are others who can be reached: for every input. No condition. -/
import Derived.Test.YtedhippamfioeaaRpfFact
import Derived.Test.YtedhippamfioeaaIn3
import Derived.BigQuiet
import Derived.Test.YtedhippamfioeaaStpUse
namespace Go.Proofs.Ytedhippamfioeaa.RpfTreeL
open Go.ChangeShapes Go.WideShapes Go.ChangeAt Go.RowKit Go.Proofs.Ytedhippamfioeaa.Kit Go.Proofs.Ytedhippamfioeaa.App Go.Proofs.Ytedhippamfioeaa.Cells Go.Proofs.Ytedhippamfioeaa.Err Go.Proofs.Ytedhippamfioeaa.Vector Go.Proofs.Ytedhippamfioeaa.Spf Go.Proofs.Ytedhippamfioeaa.Stp Go.Proofs.Ytedhippamfioeaa.Rpf
set_option linter.unusedVariables false
set_option maxRecDepth 20000
set_option maxHeartbeats 4000000
abbrev Law (n : Int) (p : Option Addr) (m cap : Nat) (s : Int) (w : World) : Prop := Calls Try.prog 4 #[.int .i64 n, .slice p m cap, .int .i64 s] w fun e w' => e = .returned (.bool true) ∧ Below w.heap.size w w'
theorem law_bad (n s : Int) (p : Option Addr) (m cap : Nat) (ls : List Lk) (w : World) (hm : m = ls.length) (hi : CI layL w p cap ls) (c : Int) (hc : code n ls = c) (h0 : c ≠ 0) : Law n p m cap s w := by
  have hlm := hi.len_le
  rw [← hm] at hlm
  have UB := Lib.hid (fun W (hW : Below w.heap.size w W) => used_bad n p cap m ls W hm (hi.below hW) c hc h0)
  rw [er_ne h0] at UB
  clear hm hi hc h0
  have FA := Lib.hid (Rpf.fact_any w)
  unfold Law
  go_enter Try.func4, Try.ntmps4
  go_wp2_with fail
  refine FA.out.mono ?_; rintro e w1 ⟨rfl, hb1⟩
  have HB1 := Lib.hid hb1
  clear FA hb1
  go_wp2_with fail
  refine (UB.out w1 HB1.out).mono ?_; rintro e w2 ⟨rfl, hb⟩
  have HB2 := Lib.hid (bcall HB1.out hb)
  clear UB HB1 hb
  go_wp2_with fail
  go_ret
  exact ⟨by first | rfl | simp, HB2.out⟩
theorem law_out (n : Nat) (s : Int) (p : Option Addr) (m cap : Nat) (ls : List Lk) (w : World) (hm : m = ls.length) (hi : CI layL w p cap ls) (hs : (Lit.int .i64 s).wf = true) (g : Vector.Good n ls) (hs2 : ¬ (0 ≤ s ∧ s ≤ (n : Int) - 1)) : Law n p m cap s w := by
  have hn8 := g.up
  have hn1 := g.lo
  have hm32 : m ≤ 32 := by rw [hm]; exact g.len
  have hlm := hi.len_le
  rw [← hm] at hlm
  have UR := Lib.hid (fun W (hW : Below w.heap.size w W) => used_good n p cap m ls W hm (hi.below hW) g)
  have hw1 : IntKind.i64.wrap ((n : Int) - 1) = (n : Int) - 1 := wrap_in (n := (n : Int) - 1) ⟨by omega, by omega⟩
  have u0 : ((m : Int) != (m : Int)) = false := by simp
  have u1 : ((n : Int) != (n : Int)) = false := by simp
  have G2 := Lib.hid (show Vector.Good n (picks ls (us ls n) m) by rw [hm]; exact picks_good g _)
  have HG := Lib.hid g
  have HM := Lib.hid hm
  have HI := Lib.hid hi
  have IN := Lib.hid (fun W => Drr.in_any s 0 ((n : Int) - 1) W false (in_false hs2))
  have HW := Lib.hid hs
  have HAND := Lib.hid (show wrong n (picks ls (us ls n) m) [s] = 1 from by
    unfold wrong
    rw [if_pos (code_good G2.out)]
    unfold outs
    rw [if_pos (by omega)])
  clear hm hi g hs hs2
  have FA := Lib.hid (Rpf.fact_any w)
  unfold Law
  go_enter Try.func4, Try.ntmps4
  go_wp2_with fail
  refine FA.out.mono ?_; rintro e w1 ⟨rfl, hb1⟩
  have HB1 := Lib.hid hb1
  clear FA hb1
  go_wp2_with fail
  refine (UR.out w1 HB1.out).mono ?_; rintro e w2 ⟨t, rfl, ho, hb⟩
  have HB2 := Lib.hid (bcall HB1.out hb)
  obtain ⟨pt, ct, rfl, it⟩ := ho.form
  rw [bl_len]
  have IT := Lib.hid it
  have HO0 : Hid (OC layL 38 w2 w2.heap.size (.slice none 0 0) (picks ls (us ls n) 0)) := Lib.hid (OC.nil _ _ _ _)
  clear UR HB1 hb ho it
  go_wp2_with fail
  -- the links that are used
  go_loopw [10, 11] (fun ev iv wr => ∃ (k : Nat) (v : Value), k ≤ m ∧ iv = .int .i64 k ∧ v = ev ∧ Hid (OC layL 38 wr w2.heap.size v (picks ls (us ls n) k)) ∧ Hid (Below w2.heap.size w2 wr)) (fun _ i _ => m - (intOf i).toNat)
  case atStart => exact ⟨0, _, Nat.zero_le _, rfl, rfl, HO0, Lib.hid (brefl _)⟩
  case round =>
    obtain ⟨k, v, hk, rfl, rfl, HO, HR⟩ := hrel
    clear HO0
    by_cases hlt : k < m
    · have v0 : decide ((k : Int) < (m : Int)) = true := decide_eq_true (by omega)
      have v1 : (k : Int) < (m : Int) := by omega
      have hkl : k < ls.length := by rw [← HM.out]; exact hlt
      obtain ⟨bl0, off, rfl, hbl, hat⟩ := links_at HI.out (by omega)
      obtain ⟨x0, x1, x2⟩ := hat wr (bcall HB2.out HR.out) k hkl
      obtain ⟨bt, ot, rfl, _, htt⟩ := IT.out.at (by rw [bl_len]; omega)
      obtain ⟨t, ht⟩ : ∃ t, us ls n k = t := ⟨_, rfl⟩
      have ck := htt wr HR.out k t (by rw [bl_get hlt, ht])
      have HPL := Lib.hid (show (picks ls (us ls n) k).length ≤ 32 by rw [picks_len]; have h1 := List.length_filter_le (us ls n) (List.range k); rw [List.length_range] at h1; omega)
      clear hat htt hbl hkl
      cases t with
      | false =>
        have HE := Lib.hid (show picks ls (us ls n) (k + 1) = picks ls (us ls n) k by show (if _ then _ else _) = _; rw [ht]; rfl)
        clear ht
        go_wp2_with fail
        go_roundw
        case rel => exact ⟨k + 1, v, by omega, by first | rfl | go_num, rfl, Lib.hid (by rw [HE.out]; exact HO.out), HR⟩
        case measure => simp [intOf]; omega
      | true =>
        have HE := Lib.hid (show picks ls (us ls n) (k + 1) = picks ls (us ls n) k ++ [lk ls k] by show (if _ then _ else _) = _; rw [ht]; rfl)
        clear ht
        obtain ⟨x, hx⟩ : ∃ x, lk ls k = x := ⟨_, rfl⟩
        rw [hx] at x0 x1 x2 HE
        clear hx
        obtain ⟨A, hA⟩ : ∃ A, picks ls (us ls n) k = A := ⟨_, rfl⟩
        rw [hA] at HO HE HPL
        clear hA
        have hsz := HR.out.size
        go_wp2_with (at_builtin
                     refine wp_appC tyL rfl (.tmp 48) (.tmp 53) rfl w2.heap.size v A (some ⟨wr.heap.size, 0, none⟩) 1 1 [x] rfl (OC.alloc HO.out _) rfl rfl (CI.one layL wr x _) (by have := HPL.out; rw [List.length_singleton]; omega) (Nat.le_trans hsz (by simp)) ?_
                     intro v4 w4 hown4 hg4 hat4
                     have HO4 := Lib.hid hown4
                     have HB4 := Lib.hid (show Below w2.heap.size w2 w4 from below_oneC HR.out hsz _ HO.out hg4)
                     clear hown4 hg4 hat4)
        go_roundw
        case rel => exact ⟨k + 1, v4, by omega, by first | rfl | go_num, rfl, Lib.hid (by rw [HE.out]; exact HO4.out), HB4⟩
        case measure => simp [intOf]; omega
    · obtain rfl : k = m := by omega
      have v0 : decide ((k : Int) < (k : Int)) = false := decide_eq_false (by omega)
      obtain ⟨w4, hw4⟩ : ∃ z, z = wr := ⟨wr, rfl⟩
      rw [← hw4] at HO HR ⊢
      clear hw4 wr hlt
      obtain ⟨pl, cl, rfl, hil⟩ := HO.out.form
      obtain ⟨LF, hLF⟩ : ∃ LF, picks ls (us ls n) k = LF := ⟨_, rfl⟩
      rw [hLF] at hil G2 HAND ⊢
      obtain ⟨q, hq⟩ : ∃ q, LF.length = q := ⟨_, rfl⟩
      have HBR := Lib.hid (bcall HB2.out HR.out)
      rw [hq]
      have FB := Lib.hid (flood_bad n s pl cl q LF w4 hq.symm hil HW.out 1 HAND.out (by decide))
      rw [er_1] at FB
      clear HO hil hLF IT hq
      go_wp2_with fail
      refine FB.out.mono ?_; rintro e w5 ⟨rfl, hb⟩
      have HB5 := Lib.hid (bcall HBR.out hb)
      clear hb FB
      go_wp2_with fail
      refine (IN.out w5).mono ?_; rintro e w6 ⟨rfl, hw6⟩
      rw [hw6]
      clear hw6
      go_wp2_with fail
      go_ret
      exact ⟨by first | rfl | simp, HB5.out⟩
theorem law_good (n s : Nat) (p : Option Addr) (m cap : Nat) (ls : List Lk) (w : World) (hm : m = ls.length) (hi : CI layL w p cap ls) (g : Vector.Good n ls) (hs : s < n) : Law n p m cap s w := by
  have hn8 := g.up
  have hn1 := g.lo
  have hm32 : m ≤ 32 := by rw [hm]; exact g.len
  have hlm := hi.len_le
  rw [← hm] at hlm
  have UR := Lib.hid (fun W (hW : Below w.heap.size w W) => used_good n p cap m ls W hm (hi.below hW) g)
  have hw1 : IntKind.i64.wrap ((n : Int) - 1) = (n : Int) - 1 := wrap_in (n := (n : Int) - 1) ⟨by omega, by omega⟩
  have u0 : ((m : Int) != (m : Int)) = false := by simp
  have u1 : ((n : Int) != (n : Int)) = false := by simp
  have G2 := Lib.hid (show Vector.Good n (picks ls (us ls n) m) by rw [hm]; exact picks_good g _)
  have HG := Lib.hid g
  have HM := Lib.hid hm
  have HI := Lib.hid hi
  have FR := Lib.hid (fun W (hW : Below w.heap.size w W) => from_good n s p cap m ls W hm (hi.below hW) g hs)
  have HAND := Lib.hid (show (∀ v, v < n → copies n (picks ls (us ls n) m) s v = if v ≠ s ∧ ds ls s v < 1000 then 1 else 0) ∧ sent n (picks ls (us ls n) m) s = sm (fun v => if v ≠ s ∧ ds ls s v < 1000 then 1 else 0) n from by
    rw [hm]
    have g2 := picks_good g (us ls n)
    have hf := used_forest g
    have e : ∀ v, v < n → (if v ≠ s ∧ ds (picks ls (us ls n) ls.length) v s ≠ 1000 then 1 else 0) = if v ≠ s ∧ ds ls s v < 1000 then 1 else 0 := fun v hv => by
      have h1 := keeps_near (used_keeps g) g g2 hv hs
      have h2 := ds_top g s v
      rw [ds_sym g v s] at h1
      by_cases h3 : v ≠ s ∧ ds ls s v < 1000
      · rw [if_pos h3, if_pos ⟨h3.1, fun h4 => by have := h1.1 h4; omega⟩]
      · rw [if_neg h3, if_neg (fun h4 => h3 ⟨h4.1, by
          have h5 : ds ls s v ≠ 1000 := fun h5 => h4.2 (h1.2 h5)
          omega⟩)]
    refine ⟨fun v hv => ?_, ?_⟩
    · rw [forest_copies g2 hf hs, e v hv]
    · rw [forest_sent g2 hf hs]
      exact sm_congr fun v hv => e v hv)
  have HS := Lib.hid hs
  clear hm hi g
  have FA := Lib.hid (Rpf.fact_any w)
  unfold Law
  go_enter Try.func4, Try.ntmps4
  go_wp2_with fail
  refine FA.out.mono ?_; rintro e w1 ⟨rfl, hb1⟩
  have HB1 := Lib.hid hb1
  clear FA hb1
  go_wp2_with fail
  refine (UR.out w1 HB1.out).mono ?_; rintro e w2 ⟨t, rfl, ho, hb⟩
  have HB2 := Lib.hid (bcall HB1.out hb)
  obtain ⟨pt, ct, rfl, it⟩ := ho.form
  rw [bl_len]
  have IT := Lib.hid it
  have HO0 : Hid (OC layL 38 w2 w2.heap.size (.slice none 0 0) (picks ls (us ls n) 0)) := Lib.hid (OC.nil _ _ _ _)
  clear UR HB1 hb ho it
  go_wp2_with fail
  -- the links that are used
  go_loopw [10, 11] (fun ev iv wr => ∃ (k : Nat) (v : Value), k ≤ m ∧ iv = .int .i64 k ∧ v = ev ∧ Hid (OC layL 38 wr w2.heap.size v (picks ls (us ls n) k)) ∧ Hid (Below w2.heap.size w2 wr)) (fun _ i _ => m - (intOf i).toNat)
  case atStart => exact ⟨0, _, Nat.zero_le _, rfl, rfl, HO0, Lib.hid (brefl _)⟩
  case round =>
    obtain ⟨k, v, hk, rfl, rfl, HO, HR⟩ := hrel
    clear HO0
    by_cases hlt : k < m
    · have v0 : decide ((k : Int) < (m : Int)) = true := decide_eq_true (by omega)
      have v1 : (k : Int) < (m : Int) := by omega
      have hkl : k < ls.length := by rw [← HM.out]; exact hlt
      obtain ⟨bl0, off, rfl, hbl, hat⟩ := links_at HI.out (by omega)
      obtain ⟨x0, x1, x2⟩ := hat wr (bcall HB2.out HR.out) k hkl
      obtain ⟨bt, ot, rfl, _, htt⟩ := IT.out.at (by rw [bl_len]; omega)
      obtain ⟨t, ht⟩ : ∃ t, us ls n k = t := ⟨_, rfl⟩
      have ck := htt wr HR.out k t (by rw [bl_get hlt, ht])
      have HPL := Lib.hid (show (picks ls (us ls n) k).length ≤ 32 by rw [picks_len]; have h1 := List.length_filter_le (us ls n) (List.range k); rw [List.length_range] at h1; omega)
      clear hat htt hbl hkl
      cases t with
      | false =>
        have HE := Lib.hid (show picks ls (us ls n) (k + 1) = picks ls (us ls n) k by show (if _ then _ else _) = _; rw [ht]; rfl)
        clear ht
        go_wp2_with fail
        go_roundw
        case rel => exact ⟨k + 1, v, by omega, by first | rfl | go_num, rfl, Lib.hid (by rw [HE.out]; exact HO.out), HR⟩
        case measure => simp [intOf]; omega
      | true =>
        have HE := Lib.hid (show picks ls (us ls n) (k + 1) = picks ls (us ls n) k ++ [lk ls k] by show (if _ then _ else _) = _; rw [ht]; rfl)
        clear ht
        obtain ⟨x, hx⟩ : ∃ x, lk ls k = x := ⟨_, rfl⟩
        rw [hx] at x0 x1 x2 HE
        clear hx
        obtain ⟨A, hA⟩ : ∃ A, picks ls (us ls n) k = A := ⟨_, rfl⟩
        rw [hA] at HO HE HPL
        clear hA
        have hsz := HR.out.size
        go_wp2_with (at_builtin
                     refine wp_appC tyL rfl (.tmp 48) (.tmp 53) rfl w2.heap.size v A (some ⟨wr.heap.size, 0, none⟩) 1 1 [x] rfl (OC.alloc HO.out _) rfl rfl (CI.one layL wr x _) (by have := HPL.out; rw [List.length_singleton]; omega) (Nat.le_trans hsz (by simp)) ?_
                     intro v4 w4 hown4 hg4 hat4
                     have HO4 := Lib.hid hown4
                     have HB4 := Lib.hid (show Below w2.heap.size w2 w4 from below_oneC HR.out hsz _ HO.out hg4)
                     clear hown4 hg4 hat4)
        go_roundw
        case rel => exact ⟨k + 1, v4, by omega, by first | rfl | go_num, rfl, Lib.hid (by rw [HE.out]; exact HO4.out), HB4⟩
        case measure => simp [intOf]; omega
    · obtain rfl : k = m := by omega
      have v0 : decide ((k : Int) < (k : Int)) = false := decide_eq_false (by omega)
      obtain ⟨w4, hw4⟩ : ∃ z, z = wr := ⟨wr, rfl⟩
      rw [← hw4] at HO HR ⊢
      clear hw4 wr hlt
      obtain ⟨pl, cl, rfl, hil⟩ := HO.out.form
      obtain ⟨LF, hLF⟩ : ∃ LF, picks ls (us ls n) k = LF := ⟨_, rfl⟩
      rw [hLF] at hil G2 HAND ⊢
      obtain ⟨q, hq⟩ : ∃ q, LF.length = q := ⟨_, rfl⟩
      have HBR := Lib.hid (bcall HB2.out HR.out)
      rw [hq]
      have FL := Lib.hid (flood_good (s := s) pl cl q w4 hq.symm hil G2.out HS.out)
      clear HO hil hLF IT hq
      go_wp2_with fail
      refine FL.out.mono ?_; rintro e w5 ⟨u, rfl, hu, hb⟩
      have HB5 := Lib.hid (bcall HBR.out hb)
      obtain ⟨pu, cu, rfl, iu⟩ := hu.form
      rw [cps_len]
      have IU5 := Lib.hid iu
      have HK0 := Lib.hid HAND.out.2
      obtain ⟨k0, hk0⟩ : ∃ k0, sent n LF s = k0 := ⟨_, rfl⟩
      rw [hk0] at HK0 ⊢
      clear hu iu hb FL hk0
      go_wp2_with fail
      refine (FR.out w5 HB5.out).mono ?_; rintro e w6 ⟨uf, vf, rfl, huf, hvf, hb⟩
      have HB6 := Lib.hid (bcall HB5.out hb)
      obtain ⟨pf, cf, rfl, iff_⟩ := huf
      obtain ⟨ph, ch, rfl, ih⟩ := hvf
      rw [rw1_len, rw1_len]
      have IU := Lib.hid (IU5.out.below hb)
      obtain ⟨bu, ou, hpu, hbu, hcu⟩ := IU.out.2.2.2 (by rw [cps_len]; omega)
      obtain ⟨bf, of, hpf, hbf, hcf⟩ := iff_.2.2.2 (by rw [rw1_len]; omega)
      subst hpu; subst hpf
      have CU := Lib.hid (fun W (hW : Below w6.heap.size w6 W) j (hj : j < n) => (show W.cell? ⟨bu, ou + j, none⟩ = some (.int .i64 (((if j ≠ s ∧ ds ls s j < 1000 then 1 else 0 : Nat)) : Int)) from by
        rw [hW.cell (p := ⟨bu, ou + j, none⟩) hbu, hcu j (by rw [cps_len]; exact hj), cps_get _ _ hj, HAND.out.1 j hj]))
      have CF := Lib.hid (fun W (hW : Below w6.heap.size w6 W) j (hj : j < n) => (show W.cell? ⟨bf, of + j, none⟩ = some (.int .i64 (ds ls s j)) from by
        rw [hW.cell (p := ⟨bf, of + j, none⟩) hbf, hcf j (by rw [rw1_len]; exact hj), rw1_get _ _ hj]))
      have hcapu : n ≤ cu := by have := IU.out.1; rwa [cps_len] at this
      have hcapf : n ≤ cf := by have := iff_.1; rwa [rw1_len] at this
      clear hb hbu hcu hbf hcf iff_ ih HB5 IU5 FR HAND IU
      go_wp2_with fail
      clear v0
      go_loopw [16, 17] (fun qv iv wr => ∃ i : Nat, i ≤ n ∧ iv = .int .i64 i ∧ qv = .int .i64 ((sm (fun v => if v ≠ s ∧ ds ls s v < 1000 then 1 else 0) i : Nat) : Int) ∧ Hid (Below w6.heap.size w6 wr)) (fun _ i _ => n - (intOf i).toNat)
      case atStart => exact ⟨0, Nat.zero_le _, rfl, rfl, Lib.hid (brefl _)⟩
      case round =>
        obtain ⟨i, hin, rfl, rfl, HQ⟩ := hrel
        have hsm := sm_top (f := fun v => if v ≠ s ∧ ds ls s v < 1000 then 1 else 0) (b := 1) i (fun j _ => by split <;> omega)
        by_cases hlt : i < n
        · have v0 : decide ((i : Int) < (n : Int)) = true := decide_eq_true (by omega)
          have v1 : (i : Int) < (n : Int) := by omega
          have ci := CU.out wr HQ.out i hlt
          have fi := CF.out wr HQ.out i hlt
          have HSM := Lib.hid (show sm (fun v => if v ≠ s ∧ ds ls s v < 1000 then 1 else 0) (i + 1) = _ from rfl)
          have hsx : sm (fun v => if v ≠ s ∧ ds ls s v < 1000 then 1 else 0) (i + 1) = sm (fun v => if v ≠ s ∧ ds ls s v < 1000 then 1 else 0) i + (if i ≠ s ∧ ds ls s i < 1000 then 1 else 0) := by rw [sm]; try omega
          obtain ⟨r, hr⟩ : ∃ r, sm (fun v => if v ≠ s ∧ ds ls s v < 1000 then 1 else 0) i = r := ⟨_, rfl⟩
          rw [hr] at hsm hsx ⊢
          clear hr HSM
          by_cases h1 : i = s
          · have t1 : ((i : Int) != (s : Int)) = false := by rw [h1]; simp
            rw [if_neg (fun h => h.1 h1)] at ci hsx
            have HSX := Lib.hid hsx
            generalize ds ls s i = y at fi
            clear hsx h1
            go_wp2_with fail
            go_roundw
            case rel => exact ⟨i + 1, by omega, by first | rfl | go_num, by rw [HSX.out]; first | rfl | simp, HQ⟩
            case measure => simp [intOf]; omega
          · have t1 : ((i : Int) != (s : Int)) = true := by rw [bne_iff_ne]; omega
            by_cases h2 : ds ls s i < 1000
            · have t2 : decide (ds ls s i < 1000) = true := decide_eq_true h2
              rw [if_pos ⟨h1, h2⟩] at ci hsx
              have HSX := Lib.hid hsx
              generalize ds ls s i = y at fi t2
              have hw9 : IntKind.i64.wrap ((r : Int) + 1) = (r : Int) + 1 := wrap_in (by omega)
              clear hsx h1 h2
              go_wp2_with fail
              go_roundw
              case rel => exact ⟨i + 1, by omega, by first | rfl | go_num, by rw [HSX.out]; first | rfl | go_num | simp, HQ⟩
              case measure => simp [intOf]; omega
            · have t2 : decide (ds ls s i < 1000) = false := decide_eq_false h2
              rw [if_neg (fun h => h2 h.2)] at ci hsx
              have HSX := Lib.hid hsx
              generalize ds ls s i = y at fi t2
              clear hsx h1 h2
              go_wp2_with fail
              go_roundw
              case rel => exact ⟨i + 1, by omega, by first | rfl | go_num, by rw [HSX.out]; first | rfl | simp, HQ⟩
              case measure => simp [intOf]; omega
        · obtain rfl : i = n := by omega
          have v0 : decide ((i : Int) < (i : Int)) = false := decide_eq_false (by omega)
          rw [← HK0.out]
          have e5 : ((k0 : Int) == (k0 : Int)) = true := by simp
          have HBF := Lib.hid (bcall HB6.out HQ.out)
          clear hsm
          go_wp2_with fail
          go_ret
          exact ⟨by first | rfl | simp, HBF.out⟩
theorem law_any (n s : Int) (p : Option Addr) (m cap : Nat) (ls : List Lk) (w : World) (hm : m = ls.length) (hi : CI layL w p cap ls) (hs : (Lit.int .i64 s).wf = true) : Law n p m cap s w := by
  by_cases h : code n ls = 0
  · obtain ⟨N, rfl, g⟩ := good_of h
    by_cases h2 : 0 ≤ s ∧ s ≤ (N : Int) - 1
    · obtain ⟨S, rfl⟩ : ∃ S : Nat, s = (S : Int) := ⟨s.toNat, by omega⟩
      exact law_good N S p m cap ls w hm hi g (by omega)
    · exact law_out N s p m cap ls w hm hi hs g h2
  · exact law_bad n s p m cap ls w hm hi _ rfl h

theorem reads : Try.f4.params.toList.all (fun t => Try.prog.readableRec t && decide (t < Try.prog.types.size)) = true := by kernel_rfl

theorem contract (H : Type) (enc : TypeId × Value → H) (W : World) (base : Nat) (args : Array Value) (ds gs : List (DataW H)) (before : List MemPlace)
    (hval : ∀ (j : Nat) t v, Try.f4.params[j]? = some t → args[j]? = some v → Value.okWide Try.prog W .any base t v)
    (hW : DataW.Whole enc Try.prog Try.f4.params.toList Rows.rpfTreeSpec.vars false W args.toList ds gs before) :
    Calls Try.prog 4 args W fun e W' => ∃ v, e = .returned v ∧ Rows.rpfTreeSpec.post enc Try.prog Try.f4 false true false false W args v W' := by
  have hW' := hW
  obtain ⟨p, q, hA0, hV, rfl, hfz, hnd⟩ := hW
  have hA : DataW.TrodAll enc Try.prog W 0 (fun _ => true) true Try.f4.params.toList args.toList ds p := hA0
  have hlt := hA.lt
  rw [Try.params4] at hA hval
  obtain ⟨v0, vs0, d0, ds0, p0, q0, hargs, rfl, rfl, h0, r0⟩ := trodAll_cons hA
  obtain ⟨v1, vs1, d1, ds1, p1, q1, hvs1, rfl, rfl, h1, r1⟩ := trodAll_cons r0
  obtain ⟨v2, vs2, d2, ds2, p2, q2, hvs2, rfl, rfl, h2, r2⟩ := trodAll_cons r1
  obtain ⟨hvsn, rfl, rfl⟩ := trodAll_nil r2
  simp only [hvsn, hvs2, hvs1] at hargs
  obtain rfl : args = #[v0, v1, v2] := by cases args; simp_all
  obtain ⟨rfl, rfl⟩ := trodVars_none hV
  clear hA0
  obtain ⟨a0, rfl, rfl, rfl, w0⟩ := open_int Try.underlying3 (hval 0 3 v0 rfl rfl) h0
  have b0 := bounds_int w0
  obtain ⟨p1a, cap1, l1, rfl, i1, e1⟩ := Go.Proofs.Ytedhippamfioeaa.Vector.open_links (hval 1 22 v1 rfl rfl) h1 (fun x hx => hlt x (by simp [hx]))
  obtain ⟨a2, rfl, rfl, rfl, w2⟩ := open_int Try.underlying3 (hval 2 3 v2 rfl rfl) h2
  have b2 := bounds_int w2
  exact law_post 4 laid reads rfl Try.underlying4 rfl hW' ⟨rfl, rfl, rfl⟩ (law_any a0 a2 p1a _ cap1 l1 W rfl i1 w2)

set_option maxRecDepth 100000 in
theorem lifted (os : Os) (started : os.Started) (H : Type) (enc : TypeId × Value → H) :
    ReturnsInHanded {} Try.checked os 4 .any (Rows.rpfTreeSpec.pre6 enc Try.prog Try.f4 Rows.rpfTreeRow.domain false) (Rows.rpfTreeSpec.post enc Try.prog Try.f4 false true false false) := by
  refine returnsInHanded_of_change (C := Try.checked) own started (by kernel_rfl) Try.func4
    (ChangeSpec.witness6 (enc := enc) (C := Try.checked) false ⟨#[], #[.int .i64 0, .slice none 0 0, .int .i64 0], []⟩ 8 (by kernel_rfl) (by kernel_rfl) (by kernel_rfl) (by kernel_rfl)) ?_
  intro W base args ds gs before hval hW _ _
  exact contract H enc W base args ds gs before hval hW

theorem proved : Rows.RpfTreeSaid :=
  OpenClaim.holds_of_wide 4 Try.f4 rfl rfl rfl rfl rfl rfl rfl ⟨rfl, rfl, rfl, rfl, rfl⟩ rfl rfl rfl rfl rfl (by kernel_rfl) Try.func4 (by kernel_rfl)
    (of_decide_eq_true (by kernel_rfl)) (by unfold Func.isWrapper; first | (rw [if_pos (by decide +kernel)]; kernel_rfl) | (rw [if_neg (by decide +kernel)]; exact ⟨rfl, rfl⟩))
    (fun os started H enc _ => lifted os started H enc)
end Go.Proofs.Ytedhippamfioeaa.RpfTreeL
