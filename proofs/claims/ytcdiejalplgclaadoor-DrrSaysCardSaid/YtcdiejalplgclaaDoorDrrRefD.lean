/- The document's answer on queues: the order in which they are served. No statement is proved here. -/
import Derived.Test.YtcdiejalplgclaaDoorDrrRef
import Derived.Deep.LoopGhost
namespace Go.Proofs.YtcdiejalplgclaaDoor.Drr
open Go.ChangeShapes Go.WideShapes Go.ChangeAt Go.RowKit Go.Proofs.YtcdiejalplgclaaDoor.Kit Go.Proofs.YtcdiejalplgclaaDoor.App Go.Proofs.YtcdiejalplgclaaDoor.Err
set_option linter.unusedVariables false
set_option maxRecDepth 20000
set_option maxHeartbeats 4000000

theorem rdrr_good (p : Option Addr) (cap n : Nat) (ls : List (List Int)) (Q : Int) (w : World) (hn : n = ls.length) (hi : RowsI w p cap ls) (hg : Good ls) (hQ : 1 ≤ Q ∧ Q ≤ 20) (N : Nat) (L : List Int) (hL : Runs Q N (start ls) L) :
    Calls Tryd.prog 8 #[.slice p n cap, .int .i64 Q] w fun e w' => ∃ o, e = .returned o ∧ OwnI w' w.heap.size o L ∧ Below w.heap.size w w' := by
  have TH := Lib.hid (fun W (hW : Below w.heap.size w W) => things_any p cap n ls W hn (hi.below hW) hg L.length (once_all hL).2.1.symm)
  have HI := Lib.hid (rows_at hi)
  have HN := Lib.hid hn
  have HG := Lib.hid hg
  have hl40 : L.length ≤ 40 := by rw [(once_all hL).2.1]; exact things_le hg
  have HL := Lib.hid (show Runs Q N (Qu ls n (fun _ => 0) (fun _ => 0) 0) L by rw [hn, qu_start]; exact hL)
  have hn5 : n ≤ 5 := by rw [hn]; exact hg.1
  have HQ := Lib.hid hQ
  obtain ⟨q1, q2⟩ := hQ
  obtain ⟨w5, hmk1, hou1, hg1⟩ := made_ints w n (by omega)
  obtain ⟨w6, hmk2, hou2, hg2⟩ := made_ints w5 n (by omega)
  have hlt1 : w.heap.size < w5.heap.size := (hou1.lt _ rfl).2
  have hlt2 : w5.heap.size < w6.heap.size := (hou2.lt _ rfl).2
  obtain ⟨G1, hG1⟩ : ∃ g, w.heap.size = g := ⟨_, rfl⟩
  obtain ⟨G2, hG2⟩ : ∃ g, w5.heap.size = g := ⟨_, rfl⟩
  obtain ⟨B, hB⟩ : ∃ g, w6.heap.size = g := ⟨_, rfl⟩
  have HT0 := Lib.hid (show Three w w6 G1 G2 B n (lstA n (fun _ => 0)) (lstC n (fun _ => 0)) (.slice none 0 0) [] by
    refine ⟨⟨?_, ?_, by omega, by omega, ?_⟩, OwnI.nil _ _, by omega, by omega⟩
    · rw [lstA_zero, ← hG1]
      exact hou1.more (row := none) hg2 (.inr (by simp [Value.ownBlock]))
    · rw [lstC_zero, ← hG2]
      exact hou2
    · exact ⟨hg2.os.trans hg1.os, hg2.tape.trans hg1.tape, hg2.output.trans hg1.output, Nat.le_trans hg1.size hg2.size, fun k hk => (hg2.block k (Nat.lt_of_lt_of_le hk hg1.size) (by simp)).trans (hg1.block k hk (by simp))⟩)
  have hwB : w.heap.size ≤ B := by omega
  rw [hG1] at hmk1
  rw [hG2] at hmk2
  clear hn hi hg hL hou1 hou2 hg1 hg2 hlt1 hlt2 hG1 hG2 hB
  go_enter Tryd.func8, Tryd.ntmps8
  go_wp2_with fail
  clear hmk1 hmk2
  go_loopg [7] N (fun gk ov wr => ∃ (a : Nat → Nat) (c : Nat → Int) (o : Value) (out X : List Int), o = ov ∧ Hid (Three w wr G1 G2 B n (lstA n a) (lstC n c) o out) ∧ Hid (Dok ls a c) ∧ Hid (Runs Q gk (Qu ls n a c 0) X) ∧ Hid (out ++ X = L))
  case atStart => exact ⟨fun _ => 0, fun _ => 0, _, [], L, rfl, HT0, Lib.hid (Dok.start HG.out), HL, Lib.hid rfl⟩
  case round =>
    clear HT0 HL
    obtain ⟨a, c, o, out, X, rfl, HT, HD, HR, HX⟩ := hrel
    have T := Lib.hid (TH.out wr HT.out.two.bel)
    obtain ⟨po, co, ho, _⟩ := HT.out.own.form
    obtain ⟨m, hm⟩ : ∃ m, out.length = m := ⟨_, rfl⟩
    obtain ⟨k, hk⟩ : ∃ k, L.length = k := ⟨_, rfl⟩
    have hmk : m + X.length = k := by rw [← hm, ← hk, ← HX.out, List.length_append]
    rw [hm] at ho
    rw [hk] at T hl40
    subst ho
    by_cases hlt : m < k
    · have u1 : decide ((m : Int) < (k : Int)) = true := decide_eq_true (by omega)
      have HXP := Lib.hid (show X ≠ [] by intro h; rw [h] at hmk; simp at hmk; omega)
      have HK := Lib.hid hk
      have HGK := Lib.hid (show gk ≤ gk from Nat.le_refl _)
      obtain ⟨g, hg⟩ : ∃ g, g = gk := ⟨gk, rfl⟩
      rw [← hg] at HR
      have HGE := Lib.hid hg
      have HP := Lib.hid (show g ≠ 0 by
        intro h
        rw [h] at HR
        have := HR.out
        cases hq : Qu ls n a c 0 with
        | nil => rw [hq] at this; exact HXP.out (runs_nil this).2
        | cons f fs =>
          rw [hq] at this
          obtain ⟨_, _, h1, _⟩ := runs_cons this
          omega)
      clear hk hm hmk HXP HGK hg
      go_wp2_with fail
      refine T.out.mono ?_; rintro e w7 ⟨rfl, rfl⟩
      go_wp2_with fail
      go_loopw [7, 8] (fun ov iv wr => ∃ (i g' : Nat) (a : Nat → Nat) (c : Nat → Int) (o : Value) (out X : List Int), o = ov ∧ i ≤ n ∧ iv = .int .i64 i ∧ g' ≤ g ∧ Hid (g' = g → ∀ k, k < i → (row ls k).drop (a k) = []) ∧ Hid (Three w wr G1 G2 B n (lstA n a) (lstC n c) o out) ∧ Hid (Dok ls a c) ∧ Hid (Runs Q g' (Qu ls n a c i) X) ∧ Hid (out ++ X = L)) (fun _ i _ => n - (intOf i).toNat)
      case atStart => exact ⟨0, g, a, c, _, out, X, rfl, Nat.zero_le _, rfl, Nat.le_refl _, Lib.hid (fun _ k h => by omega), HT, HD, HR, HX⟩
      case round =>
        clear HT HD HR HX T
        obtain ⟨i, g', a, c, o, out, X, rfl, hi, rfl, hgg, HZ, HT, HD, HR, HX⟩ := hrel
        by_cases hin : i < n
        · have u2 : decide ((i : Int) < (n : Int)) = true := decide_eq_true (by omega)
          have HIL := Lib.hid (show i < ls.length by rw [← HN.out]; exact hin)
          obtain ⟨b, off, rfl, hcc⟩ := HI.out (Nat.lt_of_le_of_lt (Nat.zero_le _) HIL.out)
          obtain ⟨q, c1, hck, hik⟩ := hcc wr HT.out.two.bel i HIL.out
          have HCC := Lib.hid hcc
          have h8 := (HG.out.row i).1
          obtain ⟨m, hm⟩ : ∃ m, (row ls i).length = m := ⟨_, rfl⟩
          have hza := own_cell HT.out.two.o1 i (by rw [lstA_len]; exact hin)
          rw [lstA_get a hin] at hza
          have hzm := HD.out.up i
          rw [hm] at hck h8 hzm
          obtain ⟨z, hz⟩ : ∃ z, a i = z := ⟨_, rfl⟩
          rw [hz] at hza hzm
          clear hcc
          by_cases he : z = m
          · have v1 : ((z : Int) == (m : Int)) = true := by rw [he]; simp
            have HE := Lib.hid (show (row ls i).drop (a i) = [] by rw [hz]; exact List.drop_eq_nil_of_le (by omega))
            have HZ2 := Lib.hid (show g' = g → ∀ k, k < i + 1 → (row ls k).drop (a k) = [] from fun h k hk => by
              by_cases e : k = i
              · rw [e]; exact HE.out
              · exact HZ.out h k (by omega))
            have HR2 := Lib.hid (show Runs Q g' (Qu ls n a c (i + 1)) X by rw [qu_skip hin HE.out]; exact HR.out)
            clear he hm hz hik HZ HR
            go_wp2_with fail
            go_quiet (fail)
            go_wp2_with fail
            go_roundw
            case rel => exact ⟨i + 1, g', a, c, _, out, X, rfl, by omega, by first | rfl | go_num, hgg, HZ2, Lib.hid (HT.out.drewN nq), HD, HR2, HX⟩
            case measure => simp [intOf]; omega
          · have v1 : ((z : Int) == (m : Int)) = false := by rw [beq_eq_false_iff_ne]; omega
            have hne : (row ls i).drop (a i) ≠ [] := by
              intro h
              have := congrArg List.length h
              rw [List.length_drop, hz, hm] at this
              simp at this
              omega
            have HNE := Lib.hid hne
            have hok := HD.out.ok i hne
            have hcu : c i ≤ 20 := hok.up
            have hcl : 0 ≤ c i := hok.lo
            have HALL := Lib.hid (HG.out.row i).2
            obtain ⟨k0, hk0⟩ : ∃ k, serve ((row ls i).drop (a i)) (c i + Q) = k := ⟨_, rfl⟩
            obtain ⟨g2, Y, hg2, hY, hR2⟩ := qu_step hin hne HR.out k0 hk0
            have hk8 : k0 ≤ 8 := by
              have := serve_le ((row ls i).drop (a i)) (c i + Q)
              rw [hk0, List.length_drop, hm] at this
              omega
            have HD2 := Lib.hid (HD.out.step HQ.out hne k0 hk0)
            have HR2 := Lib.hid hR2
            have HX2 := Lib.hid (show (out ++ List.replicate k0 (i : Int)) ++ Y = L by rw [List.append_assoc, ← hY]; exact HX.out)
            have hol : out.length ≤ 40 := by rw [← HK.out, ← HX.out, List.length_append] at hl40; omega
            have HG2 := Lib.hid (show g2 < g by omega)
            rw [hz] at hk0
            have HCI := Lib.hid (show c i + Q - tot (((row ls i).drop (a i)).take 0) = c i + Q by simp [tot])
            have HK0 := Lib.hid (show k0 = 0 + serve ((row ls i).drop (z + 0)) (c i + Q) by rw [Nat.zero_add, Nat.add_zero]; exact hk0.symm)
            have HZA := Lib.hid hz
            have HMM := Lib.hid hm
            have HIK := Lib.hid hik
            clear hne hok hk0 hg2 hY hR2 hm hz hik HR HX HD HZ
            have HCK := Lib.hid hck
            clear hck
            have hck := HCK.out
            go_wp2_with fail
            go_quiet (fail)
            have HT1 := Lib.hid (HT.out.drewN nq)
            clear HT hza hck
            generalize wr.drewN nq = w8 at HT1 ⊢
            have hcs := own_cell HT1.out.two.o2 i (by rw [lstC_len]; exact hin)
            have f2 := own_fz HT1.out.two.o2 i
            rw [lstC_get c hin] at hcs
            obtain ⟨ci, hci⟩ : ∃ x, c i = x := ⟨_, rfl⟩
            rw [hci] at hcs hcu hcl HCI HK0
            have HCE := Lib.hid hci
            clear hci
            have hw1 := wrap_in (n := ci + Q) (by omega)
            go_wp2_with fail
            have HT2 : Hid (Three w (w8.setCell ⟨G2, i, none⟩ (.int .i64 (ci + Q))) G1 G2 B n (lstA n a) (lstC n (upF c i (ci + Q))) o out) := Lib.hid (by
              have h := HT1.out.set2 i (ci + Q) (wf_in (by omega))
              rwa [lstC_set c hin] at h)
            clear HT1 hcs f2 hw1
            generalize w8.setCell ⟨G2, i, none⟩ (.int .i64 (ci + Q)) = w9 at HT2 ⊢
            have hcb : 0 ≤ ci + Q ∧ ci + Q ≤ 40 := by omega
            obtain ⟨cc, hcc⟩ : ∃ cc, ci + Q = cc := ⟨_, rfl⟩
            rw [hcc] at HT2 HK0 HCI hcb ⊢
            have HCC2 := Lib.hid hcc
            clear hcc
            go_loopg [7] k0 (fun left ov wr => ∃ (j : Nat) (cj : Int) (o1 : Value), o1 = ov ∧ j + left = k0 ∧ z + j ≤ m ∧ 0 ≤ cj ∧ cj ≤ 40 ∧ Hid (cj = cc - tot (((row ls i).drop z).take j)) ∧ Hid (k0 = j + serve ((row ls i).drop (z + j)) cj) ∧ Hid (Three w wr G1 G2 B n (lstA n (upF a i (z + j))) (lstC n (upF c i cj)) o1 (out ++ List.replicate j (i : Int))))
            case atStart => exact ⟨0, cc, _, rfl, by omega, hzm, hcb.1, hcb.2, Lib.hid (by simp [tot]), HK0, Lib.hid (by rw [Nat.add_zero, ← HZA.out, upF_self]; simpa using HT2.out)⟩
            case round =>
              clear HT2 HK0 HCI
              obtain ⟨j, cj, o1, rfl, hjl, hzm2, hc1, hc2, HCJ, HKJ, HT3⟩ := hrel
              obtain ⟨q', c1', hck, hik⟩ := HCC.out wr HT3.out.two.bel i HIL.out
              have hza := own_cell HT3.out.two.o1 i (by rw [lstA_len]; exact hin)
              have hcs := own_cell HT3.out.two.o2 i (by rw [lstC_len]; exact hin)
              rw [lstA_get _ hin, upF_same] at hza
              rw [lstC_get _ hin, upF_same] at hcs
              rw [HMM.out] at hck
              have HIK2 := Lib.hid hik
              obtain ⟨zj, hzj⟩ : ∃ x, z + j = x := ⟨_, rfl⟩
              rw [hzj] at hza HKJ hzm2
              have HZJ := Lib.hid hzj
              clear hik
              by_cases hend : zj = m
              · have v2 : decide ((zj : Int) < (m : Int)) = false := decide_eq_false (by omega)
                have hge : decide (zj < m) = false := decide_eq_false (by omega)
                have HJK := Lib.hid (show j = k0 by
                  have h := HKJ.out
                  rw [List.drop_eq_nil_of_le (by rw [HMM.out]; omega), serve_nil] at h
                  omega)
                clear hend hzj HKJ
                go_wp2_with fail
                go_quiet (fail)
                have HT5 := Lib.hid (HT3.out.drewN nq)
                clear HT3 hck hza hcs
                generalize wr.drewN nq = w10 at HT5 ⊢
                go_wp2_with fail
                have HCJ3 := Lib.hid (show cj = c i + Q - tot (((row ls i).drop (a i)).take k0) by rw [HCJ.out, HJK.out, HCE.out, HCC2.out, HZA.out])
                have HT6 : Hid (Three w w10 G1 G2 B n (lstA n (upF a i (a i + k0))) (lstC n (upF c i (c i + Q - tot (((row ls i).drop (a i)).take k0)))) o1 (out ++ List.replicate k0 (i : Int))) := Lib.hid (by
                  have h := HT5.out
                  rw [HCJ3.out, HJK.out] at h
                  rw [HZA.out] at h ⊢
                  exact h)
                go_roundw
                case rel => exact ⟨i + 1, g2, _, _, o1, _, Y, rfl, by omega, by first | rfl | go_num, by have := HG2.out; omega, Lib.hid (fun h => by have := HG2.out; omega), HT6, HD2, HR2, HX2⟩
                case measure => simp [intOf]; omega
              · have v2 : decide ((zj : Int) < (m : Int)) = true := decide_eq_true (by omega)
                have hltm : zj < m := by omega
                have hltd : decide (zj < m) = true := decide_eq_true hltm
                have hzl : zj < (row ls i).length := by rw [HMM.out]; omega
                obtain ⟨qb, qo, rfl⟩ := some_ints HIK2.out (by omega)
                have hcy := cell_ints HIK2.out zj hzl
                have hy := HALL.out ((row ls i)[zj]?.getD 0) (by rw [List.getElem?_eq_getElem hzl]; exact List.getElem_mem hzl)
                have HDR := Lib.hid (drop_get hzl)
                obtain ⟨y, hyy⟩ : ∃ y, (row ls i)[zj]?.getD 0 = y := ⟨_, rfl⟩
                rw [hyy] at hcy hy HDR
                obtain ⟨y1, y2⟩ := hy
                clear hyy
                by_cases hyc : y ≤ cj
                · have v3 : decide (y ≤ cj) = true := decide_eq_true hyc
                  have hj1 : j + 1 ≤ k0 := by
                    have h := HKJ.out
                    rw [HDR.out, serve_yes hyc] at h
                    omega
                  have HKJ2 := Lib.hid (show k0 = (j + 1) + serve ((row ls i).drop (z + (j + 1))) (cj - y) by
                    have h := HKJ.out
                    rw [HDR.out, serve_yes hyc] at h
                    rw [show z + (j + 1) = zj + 1 by omega]
                    omega)
                  have HCJ2 := Lib.hid (show cj - y = cc - tot (((row ls i).drop z).take (j + 1)) by
                    rw [tot_take_add, List.drop_drop, HZJ.out, HDR.out, HCJ.out]
                    simp [tot]; omega)
                  have HZI := Lib.hid (show zj + 1 = z + (j + 1) by omega)
                  obtain ⟨cy, hcy2⟩ : ∃ x, cj - y = x := ⟨_, rfl⟩
                  have hw2 : IntKind.i64.wrap (cj - y) = cy := by rw [← hcy2]; exact wrap_in (by omega)
                  rw [hcy2] at HKJ2 HCJ2
                  have hcyb : 0 ≤ cy ∧ cy ≤ 40 := by omega
                  obtain ⟨l1, hl1⟩ : ∃ l, gk = l + 1 := ⟨gk - 1, by omega⟩
                  have HL1 := Lib.hid hl1
                  have hjl1 : (j + 1) + l1 = k0 := by omega
                  have hz1 : z + (j + 1) ≤ m := by omega
                  have ho1 : (out ++ List.replicate j (i : Int)).length ≤ 60 := by simp; omega
                  have HO1 := Lib.hid ho1
                  clear hend hzj HKJ hyc hzl hcy2 ho1 hl1 hjl hj1
                  go_wp2_with fail
                  go_quiet (fail)
                  have HT5 := Lib.hid (HT3.out.drewN nq)
                  have d1 : (wr.drewN nq).cell? ⟨b, off + i, none⟩ = some (.slice (some ⟨qb, qo, none⟩) m c1') := hck
                  have d2 : (wr.drewN nq).cell? ⟨G1, i, none⟩ = some (.int .i64 (zj : Int)) := hza
                  have d3 : (wr.drewN nq).cell? ⟨G2, i, none⟩ = some (.int .i64 cj) := hcs
                  have d4 : (wr.drewN nq).cell? ⟨qb, qo + zj, none⟩ = some (.int .i64 y) := hcy
                  have f2 := own_fz HT5.out.two.o2 i
                  clear HT3 hck hza hcs hcy
                  generalize wr.drewN nq = w10 at HT5 d1 d2 d3 d4 f2 ⊢
                  go_wp2_with fail
                  go_region
                  have HT6 : Hid (Three w (w10.setCell ⟨G2, i, none⟩ (.int .i64 cy)).drew G1 G2 B n (lstA n (upF a i zj)) (lstC n (upF c i cy)) o1 (out ++ List.replicate j (i : Int))) := Lib.hid (by
                    have h := (HT5.out.set2 i cy (wf_in (by omega))).drew
                    rwa [lstC_set _ hin, upF_up, HZJ.out] at h)
                  try rw [hw2]
                  clear HT5 d1 d2 d3 d4 f2 hw2
                  generalize (w10.setCell ⟨G2, i, none⟩ (.int .i64 cy)).drew = w11 at HT6 ⊢
                  have d2 := own_cell HT6.out.two.o1 i (by rw [lstA_len]; exact hin)
                  rw [lstA_get _ hin, upF_same] at d2
                  have f1 := own_fz HT6.out.two.o1 i
                  have HT7 : Hid (Three w (w11.setCell ⟨G1, i, none⟩ (.int .i64 ((zj : Int) + 1))) G1 G2 B n (lstA n (upF a i (z + (j + 1)))) (lstC n (upF c i cy)) o1 (out ++ List.replicate j (i : Int))) := Lib.hid (by
                    have h := HT6.out.set1 i ((zj : Int) + 1) (wf_in (by omega))
                    rw [show (zj : Int) + 1 = ((zj + 1 : Nat) : Int) by omega, lstA_set _ hin, upF_up, HZI.out] at h
                    rw [show (zj : Int) + 1 = ((zj + 1 : Nat) : Int) by omega, HZI.out]
                    exact h)
                  clear HT6
                  have HT8 := Lib.hid (HT7.out.alloc (.cells #[.int .i64 (i : Int)] 3))
                  have HI1 := Lib.hid (show Ints ((w11.setCell ⟨G1, i, none⟩ (.int .i64 ((zj : Int) + 1))).alloc (.cells #[.int .i64 (i : Int)] 3)) (some ⟨w11.heap.size, 0, none⟩) 1 [(i : Int)] by
                    have h := Ints.one (w11.setCell ⟨G1, i, none⟩ (.int .i64 ((zj : Int) + 1))) (i : Int) (wf_in (by omega))
                    rwa [show (w11.setCell ⟨G1, i, none⟩ (.int .i64 ((zj : Int) + 1))).heap.size = w11.heap.size from by simp [World.setCell]] at h)
                  go_wp2_with (first
                    | (at_builtin
                       refine wp_app rfl (.tmp 98) (.tmp 100) rfl B o1 (out ++ List.replicate j (i : Int)) (some ⟨w11.heap.size, 0, none⟩) 1 1 [(i : Int)] rfl HT8.out.own rfl rfl HI1.out (by have := HO1.out; simp only [List.length_cons, List.length_nil]; omega) HT8.out.siz ?_
                       intro o2 w12 ho2 hg2 hat2
                       have HT9 := Lib.hid (HT8.out.app ho2 hg2)
                       clear ho2 hg2 hat2))
                  go_roundg l1
                  case measure => have := HL1.out; omega
                  case rel => exact ⟨j + 1, cy, o2, rfl, hjl1, hz1, hcyb.1, hcyb.2, HCJ2, HKJ2, Lib.hid (by rw [List.replicate_succ', ← List.append_assoc]; exact HT9.out)⟩
                · have v3 : decide (y ≤ cj) = false := decide_eq_false hyc
                  have HJK := Lib.hid (show j = k0 by
                    have h := HKJ.out
                    rw [HDR.out, serve_no hyc] at h
                    omega)
                  clear hend hzj HKJ hyc hzl
                  go_wp2_with fail
                  go_quiet (fail)
                  have HT5 := Lib.hid (HT3.out.drewN nq)
                  clear HT3 hck hza hcs hcy
                  generalize wr.drewN nq = w10 at HT5 ⊢
                  go_wp2_with fail
                  have HCJ3 := Lib.hid (show cj = c i + Q - tot (((row ls i).drop (a i)).take k0) by rw [HCJ.out, HJK.out, HCE.out, HCC2.out, HZA.out])
                  have HT6 : Hid (Three w w10 G1 G2 B n (lstA n (upF a i (a i + k0))) (lstC n (upF c i (c i + Q - tot (((row ls i).drop (a i)).take k0)))) o1 (out ++ List.replicate k0 (i : Int))) := Lib.hid (by
                    have h := HT5.out
                    rw [HCJ3.out, HJK.out] at h
                    rw [HZA.out] at h ⊢
                    exact h)
                  go_roundw
                  case rel => exact ⟨i + 1, g2, _, _, o1, _, Y, rfl, by omega, by first | rfl | go_num, by have := HG2.out; omega, Lib.hid (fun h => by have := HG2.out; omega), HT6, HD2, HR2, HX2⟩
                  case measure => simp [intOf]; omega
        · obtain rfl : i = n := by omega
          have u2 : decide ((i : Int) < (i : Int)) = false := decide_eq_false (by omega)
          have hlt2 : g' < g := by
            rcases Nat.lt_or_eq_of_le hgg with h | h
            · exact h
            · exfalso
              have h1 := HR.out
              rw [show Qu ls i a c i = [] by
                unfold Qu
                rw [Nat.sub_self, List.range'_zero, livs_none (fun k hk => HZ.out h k (List.mem_range.1 hk))]; rfl] at h1
              have h2 := (runs_nil h1).1
              exact HP.out (by omega)
          have HR2 := Lib.hid (show Runs Q g' (Qu ls i a c 0) X by rw [← qu_end]; exact HR.out)
          go_wp2_with fail
          go_roundg g'
          case measure => have := HGE.out; omega
          case rel => exact ⟨a, c, _, out, X, rfl, HT, HD, HR2, HX⟩
    · have u1 : decide ((m : Int) < (k : Int)) = false := decide_eq_false (by omega)
      have HE := Lib.hid (show out = L by
        have h0 : X = [] := List.eq_nil_of_length_eq_zero (by omega)
        rw [← HX.out, h0, List.append_nil])
      clear hm hk hmk
      go_wp2_with fail
      refine T.out.mono ?_; rintro e w7 ⟨rfl, rfl⟩
      go_wp2_with fail
      go_ret
      exact ⟨_, rfl, by rw [← HE.out]; exact own_mono HT.out.own hwB, HT.out.two.bel⟩
end Go.Proofs.YtcdiejalplgclaaDoor.Drr
