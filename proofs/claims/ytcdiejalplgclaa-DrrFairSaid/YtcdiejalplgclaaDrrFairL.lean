/- DrrFair: the service of two backlogged queues differs by at most the quantum and twice the largest packet: for every input. No condition. -/
import Derived.Test.YtcdiejalplgclaaDrrLaw
import Derived.BigQuiet
import Derived.Test.YtcdiejalplgclaaDrrFair
import Derived.BigRegion
namespace Go.Proofs.Ytcdiejalplgclaa.DrrFairL
open Go.ChangeShapes Go.WideShapes Go.ChangeAt Go.RowKit Go.Proofs.Ytcdiejalplgclaa.Kit Go.Proofs.Ytcdiejalplgclaa.App Go.Proofs.Ytcdiejalplgclaa.Err Go.Proofs.Ytcdiejalplgclaa.Drr
set_option linter.unusedVariables false
set_option maxRecDepth 20000
set_option maxHeartbeats 2000000
abbrev Law (p : Option Addr) (n cap : Nat) (Q : Int) (a b : Int) (w : World) : Prop := Calls Try.prog 4 #[.slice p n cap, .int .i64 Q, .int .i64 a, .int .i64 b] w fun e w' => e = .returned (.bool true) ∧ Below w.heap.size w w'
theorem law_bad (p : Option Addr) (n cap : Nat) (ls : List (List Int)) (Q : Int) (a b : Int) (w : World) (hn : n = ls.length) (hi : RowsI w p cap ls) (c : Int) (hc : codeQ ls Q = c) (h0 : c ≠ 0) : Law p n cap Q a b w := by
  have RU := Lib.hid (fun W (hW : Below w.heap.size w W) => run_any p cap n ls Q W hn (hi.below hW) c hc [] (fun h => absurd h h0) (fun _ => rfl) 0 rfl)
  rw [er_ne h0] at RU
  clear hn hi hc h0
  have FA := Lib.hid (fact_any w)
  unfold Law
  go_enter Try.func4, Try.ntmps4
  go_wp2_with fail
  refine FA.out.mono ?_; rintro e w1 ⟨rfl, hb1⟩
  clear FA
  go_wp2_with fail
  refine (RU.out w1 hb1).mono ?_; rintro e w2 ⟨⟨r, cr, rfl, _⟩, hb2⟩
  have HB2 := Lib.hid (bcall hb1 hb2)
  clear RU hb1 hb2
  go_wp2_with fail
  go_ret
  exact ⟨by first | rfl | simp, HB2.out⟩
theorem law_out (p : Option Addr) (n cap : Nat) (ls : List (List Int)) (Q : Int) (a b : Int) (w : World) (hn : n = ls.length) (hi : RowsI w p cap ls) (hz : codeQ ls Q = 0) (hab : ¬ ((0 ≤ a ∧ a ≤ (n : Int) - 1) ∧ (0 ≤ b ∧ b ≤ (n : Int) - 1))) : Law p n cap Q a b w := by
  obtain ⟨hg, hQ⟩ := codeQ_zero.1 hz
  obtain ⟨N, L, hL⟩ := runs_of hg hQ.1
  obtain ⟨k, hk⟩ : ∃ k, L.length = k := ⟨_, rfl⟩
  have RU := Lib.hid (fun W (hW : Below w.heap.size w W) => run_any p cap n ls Q W hn (hi.below hW) 0 hz L (fun _ => ⟨N, hL⟩) (fun h => absurd rfl h) k hk)
  rw [er_0] at RU
  have hn5 : n ≤ 5 := by rw [hn]; exact hg.1
  obtain ⟨RA, hRA⟩ : ∃ R, R = (decide ((0 : Int) ≤ a) && decide (a ≤ (n : Int) - 1)) := ⟨_, rfl⟩
  obtain ⟨RB, hRB⟩ : ∃ R, R = (decide ((0 : Int) ≤ b) && decide (b ≤ (n : Int) - 1)) := ⟨_, rfl⟩
  have hb : RA = true → RB = false := fun h => by
    rw [h] at hRA
    symm at hRA
    rw [Bool.and_eq_true, decide_eq_true_iff, decide_eq_true_iff] at hRA
    rw [hRB]
    exact (in_false (fun h => hab ⟨hRA, h⟩)).symm
  have IA := Lib.hid (fun W => in_any a 0 ((n : Int) - 1) W RA hRA)
  have IB := Lib.hid (fun W => in_any b 0 ((n : Int) - 1) W RB hRB)
  clear hn hi hz hL hk hg hQ hab hRA hRB
  cases RA with
  | true =>
    obtain rfl := hb rfl
    have FA := Lib.hid (fact_any w)
    unfold Law
    go_enter Try.func4, Try.ntmps4
    go_wp2_with fail
    refine FA.out.mono ?_; rintro e w1 ⟨rfl, hb1⟩
    clear FA
    go_wp2_with fail
    refine (RU.out w1 hb1).mono ?_; rintro e w2 ⟨⟨r, cr, rfl, _⟩, hb2⟩
    have HB2 := Lib.hid (bcall hb1 hb2)
    clear RU hb1 hb2
    go_wp2_with fail
    refine (IA.out _).mono ?_; rintro e w3 ⟨rfl, rfl⟩
    go_wp2_with fail
    refine (IB.out _).mono ?_; rintro e w4 ⟨rfl, rfl⟩
    go_wp2_with fail
    go_ret
    exact ⟨by first | rfl | simp, HB2.out⟩
  | false =>
    clear hb IB
    have FA := Lib.hid (fact_any w)
    unfold Law
    go_enter Try.func4, Try.ntmps4
    go_wp2_with fail
    refine FA.out.mono ?_; rintro e w1 ⟨rfl, hb1⟩
    clear FA
    go_wp2_with fail
    refine (RU.out w1 hb1).mono ?_; rintro e w2 ⟨⟨r, cr, rfl, _⟩, hb2⟩
    have HB2 := Lib.hid (bcall hb1 hb2)
    clear RU hb1 hb2
    go_wp2_with fail
    refine (IA.out _).mono ?_; rintro e w3 ⟨rfl, rfl⟩
    go_wp2_with fail
    go_ret
    exact ⟨by first | rfl | simp, HB2.out⟩
theorem law_good (p : Option Addr) (n cap : Nat) (ls : List (List Int)) (Q : Int) (α β : Nat) (w : World) (hn : n = ls.length) (hi : RowsI w p cap ls) (hz : codeQ ls Q = 0) (ha : α < n) (hb : β < n) : Law p n cap Q (α : Int) (β : Int) w := by
  obtain ⟨hg, hQ⟩ := codeQ_zero.1 hz
  obtain ⟨N, L, hL⟩ := runs_of hg hQ.1
  obtain ⟨k, hk⟩ : ∃ k, L.length = k := ⟨_, rfl⟩
  have RU := Lib.hid (fun W (hW : Below w.heap.size w W) => run_any p cap n ls Q W hn (hi.below hW) 0 hz L (fun _ => ⟨N, hL⟩) (fun h => absurd rfl h) k hk)
  rw [er_0] at RU
  obtain ⟨hc1, hc2, hc3⟩ := once_all hL
  have IA := Lib.hid (fun W => in_any (α : Int) 0 ((n : Int) - 1) W true (in_true (by omega)))
  have IB := Lib.hid (fun W => in_any (β : Int) 0 ((n : Int) - 1) W true (in_true (by omega)))
  have IK := Lib.hid (fun (κ : Nat) (hκ : κ < n) W => in_any (κ : Int) 0 ((n : Int) - 1) W true (in_true (by omega)))
  have HO := Lib.hid hc1
  have HE := Lib.hid hc3
  have HF := Lib.hid (fun M (h1 : 0 ≤ M) (h2 : ∀ k, ∀ x ∈ row ls k, 1 ≤ x ∧ x ≤ M) => fair_all h2 h1 hQ.1 hL)
  have HI := Lib.hid (rows_at hi)
  have HN := Lib.hid hn
  have HK := Lib.hid hk
  have hk40 : k ≤ 40 := by rw [← hk, hc2]; exact things_le hg
  have hn5 : n ≤ 5 := by rw [hn]; exact hg.1
  have HG := Lib.hid hg
  obtain ⟨q1, q2⟩ := hQ
  clear hn hi hz hL hk hc1 hc2 hc3 hg
  have FA := Lib.hid (fact_any w)
  unfold Law
  go_enter Try.func4, Try.ntmps4
  go_wp2_with fail
  refine FA.out.mono ?_; rintro e w1 ⟨rfl, hb1⟩
  clear FA
  go_wp2_with fail
  refine (RU.out w1 hb1).mono ?_; rintro e w2 ⟨⟨r, cr, rfl, hI⟩, hb2⟩
  have HL := Lib.hid hI
  have HB2 := Lib.hid (bcall hb1 hb2)
  clear RU hb1 hb2 hI
  go_wp2_with fail
  refine (IA.out _).mono ?_; rintro e w3 ⟨rfl, rfl⟩
  go_wp2_with fail
  refine (IB.out _).mono ?_; rintro e w4 ⟨rfl, rfl⟩
  clear IA IB
  go_wp2_with fail
  go_loopw [12, 13] (fun mv iv wr => ∃ (i : Nat) (M : Int), i ≤ n ∧ iv = .int .i64 i ∧ mv = .int .i64 M ∧ Hid (wr = w4) ∧ 0 ≤ M ∧ M ≤ 20 ∧ Hid (∀ j, j < i → ∀ x ∈ row ls j, x ≤ M)) (fun _ i _ => n - (intOf i).toNat)
  case atStart => exact ⟨0, 0, Nat.zero_le _, rfl, rfl, Lib.hid rfl, by omega, by omega, Lib.hid (fun j h => by omega)⟩
  case round =>
    obtain ⟨i, M, hi, rfl, rfl, HW, m1, m2, HM⟩ := hrel
    by_cases hin : i < n
    · have u1 : decide ((i : Int) < (n : Int)) = true := decide_eq_true (by omega)
      have hil : i < ls.length := by rw [← HN.out]; exact hin
      obtain ⟨b, off, rfl, hcc⟩ := HI.out (by omega)
      obtain ⟨q, c1, hck, hik⟩ := hcc w4 HB2.out i hil
      have HFI := Lib.hid (HG.out.row i)
      obtain ⟨l, hl⟩ : ∃ l, row ls i = l := ⟨_, rfl⟩
      have HROW := Lib.hid hl
      rw [hl] at hck hik HFI
      obtain ⟨m, hm⟩ : ∃ m, l.length = m := ⟨_, rfl⟩
      rw [hm] at hck
      have HMM := Lib.hid hm
      have HIK := Lib.hid hik
      have hm8 : m ≤ 8 := by rw [← hm]; exact HFI.out.1
      clear hil hcc hm hl hik
      have HCK := Lib.hid hck
      clear hck
      go_wp2_with fail
      go_loopw [12, 14] (fun mv tv wr => ∃ (t : Nat) (M' : Int), t ≤ m ∧ tv = .int .i64 t ∧ mv = .int .i64 M' ∧ Hid (wr = w4) ∧ 0 ≤ M' ∧ M' ≤ 20 ∧ Hid (∀ j, j < i → ∀ x ∈ row ls j, x ≤ M') ∧ Hid (∀ x ∈ l.take t, x ≤ M')) (fun _ t _ => m - (intOf t).toNat)
      case atStart => exact ⟨0, M, Nat.zero_le _, rfl, rfl, HW, m1, m2, HM, Lib.hid (by simp)⟩
      case round =>
        obtain ⟨t, M', ht, rfl, rfl, HW2, m3, m4, HM2, HT⟩ := hrel
        clear HM HW
        have hck : wr.cell? ⟨b, off + i, none⟩ = some (.slice q m c1) := by rw [HW2.out]; exact HCK.out
        by_cases htm : t < m
        · have u2 : decide ((t : Int) < (m : Int)) = true := decide_eq_true (by omega)
          have htl : t < l.length := by rw [HMM.out]; exact htm
          obtain ⟨qb, qo, rfl⟩ := some_ints HIK.out (by omega)
          have hcy := cell_ints (w := wr) (by rw [HW2.out]; exact HIK.out) t htl
          have hy := HFI.out.2 (l[t]?.getD 0) (by rw [List.getElem?_eq_getElem htl]; exact List.getElem_mem htl)
          have HTS := Lib.hid (take_step htl)
          generalize l[t]?.getD 0 = y at hcy hy HTS
          obtain ⟨y1, y2⟩ := hy
          clear htl
          by_cases hgt : M' < y
          · have u3 : decide (y > M') = true := decide_eq_true hgt
            have HM3 := Lib.hid (show ∀ j, j < i → ∀ x ∈ row ls j, x ≤ y from fun j h x hx => by have := HM2.out j h x hx; omega)
            have HT3 := Lib.hid (show ∀ x ∈ l.take (t + 1), x ≤ y from fun x hx => by
              rw [HTS.out] at hx
              rcases List.mem_append.1 hx with hx | hx
              · have := HT.out x hx; omega
              · rw [List.mem_singleton.1 hx]; exact Int.le_refl _)
            clear hgt
            go_wp2_with fail
            go_roundw
            case rel => exact ⟨t + 1, y, by omega, by first | rfl | go_num, rfl, HW2, by omega, y2, HM3, HT3⟩
            case measure => simp [intOf]; omega
          · have u3 : decide (y > M') = false := decide_eq_false hgt
            have HT3 := Lib.hid (show ∀ x ∈ l.take (t + 1), x ≤ M' from fun x hx => by
              rw [HTS.out] at hx
              rcases List.mem_append.1 hx with hx | hx
              · exact HT.out x hx
              · rw [List.mem_singleton.1 hx]; omega)
            clear hgt
            go_wp2_with fail
            go_roundw
            case rel => exact ⟨t + 1, M', by omega, by first | rfl | go_num, rfl, HW2, m3, m4, HM2, HT3⟩
            case measure => simp [intOf]; omega
        · obtain rfl : t = m := by omega
          have u2 : decide ((t : Int) < (t : Int)) = false := decide_eq_false (by omega)
          have HM3 := Lib.hid (show ∀ j, j < i + 1 → ∀ x ∈ row ls j, x ≤ M' from fun j h x hx => by
            by_cases e : j = i
            · subst e
              rw [HROW.out] at hx
              exact HT.out x (by rw [List.take_of_length_le (by rw [HMM.out]; exact Nat.le_refl _)]; exact hx)
            · exact HM2.out j (by omega) x hx)
          go_wp2_with fail
          go_roundw
          case rel => exact ⟨i + 1, M', by omega, by first | rfl | go_num, rfl, HW2, m3, m4, HM3⟩
          case measure => simp [intOf]; omega
    · obtain rfl : i = n := by omega
      have u1 : decide ((i : Int) < (i : Int)) = false := decide_eq_false (by omega)
      have HPRE := Lib.hid (HF.out M m1 (fun j x hx => by
        refine ⟨((HG.out.row j).2 x hx).1, ?_⟩
        by_cases h : j < i
        · exact HM.out j h x hx
        · rw [row_out (by rw [← HN.out]; omega)] at hx; simp at hx))
      clear HF HM
      have hw4 := HW.out
      subst hw4
      obtain ⟨w5, hmk1, hou1, hg1⟩ := made_ints wr i (by omega)
      obtain ⟨w6, hmk2, hou2, hg2⟩ := made_ints w5 i (by omega)
      have hlt1 := (hou1.lt _ rfl).2
      obtain ⟨G1, hG1⟩ : ∃ g, wr.heap.size = g := ⟨_, rfl⟩
      obtain ⟨G2, hG2⟩ : ∃ g, w5.heap.size = g := ⟨_, rfl⟩
      rw [hG1] at hmk1 hou1
      rw [hG2] at hmk2 hou2
      have HT0 := Lib.hid (show Two wr w6 G1 G2 i (atL i []) (sumL ls i []) by
        refine ⟨by rw [atL_zero]; exact hou1.more (row := none) hg2 (.inr (by simp [Value.ownBlock])), by rw [sumL_zero]; exact hou2, by omega, by rw [← hG1, ← hG2]; exact hlt1, ?_⟩
        exact ⟨hg2.os.trans hg1.os, hg2.tape.trans hg1.tape, hg2.output.trans hg1.output, Nat.le_trans hg1.size hg2.size, fun k hk => (hg2.block k (Nat.lt_of_lt_of_le hk hg1.size) (by simp)).trans (hg1.block k hk (by simp))⟩)
      clear hou1 hou2 hg1 hg2 hlt1 hG1 hG2
      go_wp2_with fail
      clear hmk1 hmk2
      clear HW
      generalize wr = w7 at HT0 HB2 HL
      go_loopw [17] (fun jv wr => ∃ j : Nat, j ≤ k ∧ jv = .int .i64 j ∧ Hid (Two w7 wr G1 G2 i (atL i (L.take j)) (sumL ls i (L.take j)))) (fun j _ => k - (intOf j).toNat)
      case atStart => exact ⟨0, Nat.zero_le _, rfl, HT0⟩
      case round =>
        obtain ⟨j, hj, rfl, HT⟩ := hrel
        clear HT0
        have HB3 := Lib.hid (bcall HB2.out HT.out.bel)
        by_cases hjk : j < k
        · have u1 : decide ((j : Int) < (k : Int)) = true := decide_eq_true (by omega)
          have hjl : j < L.length := by rw [HK.out]; exact hjk
          have HLW := Lib.hid (HL.out.below HT.out.bel)
          obtain ⟨rb, ro, rfl⟩ := some_ints HLW.out (by omega)
          have hcx := cell_ints HLW.out j hjl
          have HTS := Lib.hid (take_step hjl)
          obtain ⟨κ, hκ, hxκ⟩ := HE.out (L[j]?.getD 0) (by rw [List.getElem?_eq_getElem hjl]; exact List.getElem_mem hjl)
          rw [hxκ] at hcx HTS
          have hκi : κ < i := by rw [HN.out]; exact hκ
          clear hxκ
          -- the rows
          obtain ⟨b, off, rfl, hcc⟩ := HI.out (by omega)
          have HCC := Lib.hid hcc
          clear hcc
          have hcnt : (L.take (j + 1)).count (κ : Int) ≤ (row ls κ).length := by
            rw [← HO.out κ]
            exact List.Sublist.count_le _ (List.take_sublist _ _)
          rw [HTS.out, count_one, if_pos rfl] at hcnt
          obtain ⟨o, ho⟩ : ∃ o, L.take j = o := ⟨_, rfl⟩
          rw [ho] at hcnt HTS
          have HTW := Lib.hid (show Two w7 wr G1 G2 i (atL i o) (sumL ls i o) by rw [← ho]; exact HT.out)
          have HPJ := Lib.hid (show Btw ls Q M (o ++ [(κ : Int)]) by rw [← HTS.out]; exact HPRE.out (j + 1) (by omega))
          have HLE := Lib.hid (show ∀ x : Nat, (o ++ [(κ : Int)]).count (x : Int) ≤ (row ls x).length from fun x => by
            rw [← HTS.out, ← HO.out x]
            exact List.Sublist.count_le _ (List.take_sublist _ _))
          have HAS := Lib.hid (atL_set o hκi)
          have HSS := Lib.hid (sumL_set (ls := ls) (o := o) hκi (by omega))
          clear HT ho hjl
          obtain ⟨q, c1, hck, hik⟩ := HCC.out wr HB3.out κ hκ
          have h8 := (HG.out.row κ).1
          obtain ⟨m, hm⟩ : ∃ m, (row ls κ).length = m := ⟨_, rfl⟩
          have hcz := own_cell HTW.out.o1 κ (by rw [atL_len]; exact hκi)
          rw [atL_get o hκi] at hcz
          have hcs := own_cell HTW.out.o2 κ (by rw [sumL_len]; exact hκi)
          rw [sumL_get ls o hκi] at hcs
          have hs := served_in HG.out o κ
          obtain ⟨z, hz⟩ : ∃ z, o.count (κ : Int) = z := ⟨_, rfl⟩
          have HZ := Lib.hid hz
          rw [hz] at hcz hcnt HAS HSS
          have hzl : z < (row ls κ).length := by omega
          have hy := (HG.out.row κ).2 ((row ls κ)[z]?.getD 0) (by rw [List.getElem?_eq_getElem hzl]; exact List.getElem_mem hzl)
          obtain ⟨qb, qo, rfl⟩ := some_ints hik (by omega)
          have hcy := cell_ints hik z hzl
          generalize (row ls κ)[z]?.getD 0 = y at hy hcy HSS
          generalize Drr.served ls o κ = sv at hcs hs HSS
          rw [hm] at hck h8 hcnt
          have hzm : z < m := by omega
          obtain ⟨y1, y2⟩ := hy
          obtain ⟨s1, s2⟩ := hs
          have IN := Lib.hid (fun e => IK.out κ hκi (wr.drewN e))
          have u2 : decide ((z : Int) ≥ (m : Int)) = false := decide_eq_false (by omega)
          have hwn := wrap_in (n := (i : Int) - 1) (by omega)
          clear hik hm hz hzl hcnt hκ
          go_wp2_with fail
          go_quiet ((go_at_call 10; refine Calls.quiet_of_same (IN.out _)))
          have HT1 := Lib.hid (HTW.out.drewN nq)
          have c1 : (wr.drewN nq).cell? ⟨b, off + κ, none⟩ = some (.slice (some ⟨qb, qo, none⟩) m c1) := hck
          have c2 : (wr.drewN nq).cell? ⟨G1, κ, none⟩ = some (.int .i64 (z : Int)) := hcz
          have c3 : (wr.drewN nq).cell? ⟨G2, κ, none⟩ = some (.int .i64 sv) := hcs
          have c4 : (wr.drewN nq).cell? ⟨qb, qo + z, none⟩ = some (.int .i64 y) := hcy
          have f2 := own_fz HT1.out.o2 κ
          clear HTW hck hcz hcs hcy hcx HLW HB3
          generalize wr.drewN nq = w8 at HT1 c1 c2 c3 c4 f2 ⊢
          have hw2 := wrap_in (n := sv + y) (by omega)
          go_wp2_with fail
          go_region
          have HT2 : Hid (Two w7 (w8.setCell ⟨G2, κ, none⟩ (.int .i64 (sv + y))).drew G1 G2 i (atL i o) (sumL ls i (o ++ [(κ : Int)]))) := Lib.hid (by
            have h := (HT1.out.set2 κ (sv + y) (wf_in (by omega))).drew
            rwa [HSS.out] at h)
          clear HT1 HSS c1 c2 c3 c4 f2
          generalize (w8.setCell ⟨G2, κ, none⟩ (.int .i64 (sv + y))).drew = w9 at HT2 ⊢
          have c2 := own_cell HT2.out.o1 κ (by rw [atL_len]; exact hκi)
          have f1 := own_fz HT2.out.o1 κ
          rw [atL_get o hκi, HZ.out] at c2
          go_wp2_with fail
          have HT3 : Hid (Two w7 (w9.setCell ⟨G1, κ, none⟩ (.int .i64 ((z : Int) + 1))) G1 G2 i (atL i (o ++ [(κ : Int)])) (sumL ls i (o ++ [(κ : Int)]))) := Lib.hid (by
            have h := HT2.out.set1 κ ((z : Int) + 1) (wf_in (by omega))
            rwa [HAS.out] at h)
          clear HT2 HAS c2 f1
          generalize w9.setCell ⟨G1, κ, none⟩ (.int .i64 ((z : Int) + 1)) = w10 at HT3 ⊢
          generalize o ++ [(κ : Int)] = o' at HT3 HTS HPJ HLE
          have HB4 := Lib.hid (bcall HB2.out HT3.out.bel)
          have hαl : α < ls.length := by rw [← HN.out]; exact ha
          have hβl : β < ls.length := by rw [← HN.out]; exact hb
          obtain ⟨qa, ca, hca, _⟩ := HCC.out w10 HB4.out α hαl
          obtain ⟨qb', cb, hcb, _⟩ := HCC.out w10 HB4.out β hβl
          have hza := own_cell HT3.out.o1 α (by rw [atL_len]; exact ha)
          have hzb := own_cell HT3.out.o1 β (by rw [atL_len]; exact hb)
          have hsa := own_cell HT3.out.o2 α (by rw [sumL_len]; exact ha)
          have hsb := own_cell HT3.out.o2 β (by rw [sumL_len]; exact hb)
          rw [atL_get o' ha] at hza
          rw [atL_get o' hb] at hzb
          rw [sumL_get ls o' ha] at hsa
          rw [sumL_get ls o' hb] at hsb
          have la := HLE.out α
          have lb := HLE.out β
          have ma8 := (HG.out.row α).1
          have mb8 := (HG.out.row β).1
          have sa := served_in HG.out o' α
          have sb := served_in HG.out o' β
          have HFT := Lib.hid (fun h1 h2 => fair_two m1 HPJ.out (a := α) (b := β) h1 h2)
          generalize (row ls α).length = ma at hca la ma8 HFT
          generalize (row ls β).length = mb at hcb lb mb8 HFT
          generalize o'.count (α : Int) = za at hza la HFT
          generalize o'.count (β : Int) = zb at hzb lb HFT
          generalize Drr.served ls o' α = va at hsa sa HFT
          generalize Drr.served ls o' β = vb at hsb sb HFT
          obtain ⟨sa1, sa2⟩ := sa
          obtain ⟨sb1, sb2⟩ := sb
          clear hαl hβl hw2 hwn y1 y2 s1 s2 hzm h8 u2
          have HJ := Lib.hid hj
          by_cases ea : za = ma
          · have v1 : ((za : Int) == (ma : Int)) = true := by rw [ea]; simp
            clear HFT
            go_wp2_with fail
            go_quiet (fail)
            go_wp2_with fail
            go_ret
            exact ⟨rfl, bdrewN HB4.out nq⟩
          · have v1 : ((za : Int) == (ma : Int)) = false := by rw [beq_eq_false_iff_ne]; omega
            by_cases eb : zb = mb
            · have v2 : ((zb : Int) == (mb : Int)) = true := by rw [eb]; simp
              clear HFT ea
              go_wp2_with fail
              go_quiet (fail)
              go_wp2_with fail
              go_ret
              exact ⟨rfl, bdrewN HB4.out nq⟩
            · have v2 : ((zb : Int) == (mb : Int)) = false := by rw [beq_eq_false_iff_ne]; omega
              have hft := HFT.out (by omega) (by omega)
              have v3 : decide (va - vb > Q + 2 * M) = false := decide_eq_false (by omega)
              have hw3 := wrap_in (n := va - vb) (by omega)
              have hw4 := wrap_in (n := 2 * M) (by omega)
              have hw5 := wrap_in (n := Q + 2 * M) (by omega)
              clear HFT ea eb hft la lb
              go_wp2_with fail
              go_quiet (fail)
              have HT4 := Lib.hid (HT3.out.drewN nq)
              have hsa2 : (w10.drewN nq).cell? ⟨G2, α, none⟩ = some (.int .i64 va) := hsa
              have hsb2 : (w10.drewN nq).cell? ⟨G2, β, none⟩ = some (.int .i64 vb) := hsb
              clear HT3 HB4 hsa hsb hza hzb hca hcb
              generalize w10.drewN nq = w11 at HT4 hsa2 hsb2 ⊢
              go_wp2_with fail
              go_quiet (fail)
              go_wp2_with fail
              go_roundw
              case rel => exact ⟨j + 1, by have := HJ.out; omega, by first | rfl | go_num, Lib.hid (by rw [HTS.out]; exact HT4.out.drewN nq)⟩
              case measure => simp [intOf]; omega
        · obtain rfl : j = k := by omega
          have u1 : decide ((j : Int) < (j : Int)) = false := decide_eq_false (by omega)
          go_wp2_with fail
          go_ret
          exact ⟨rfl, HB3.out⟩

theorem reads : Try.f4.params.toList.all (fun t => Try.prog.readableRec t && decide (t < Try.prog.types.size)) = true := by kernel_rfl

theorem contract (H : Type) (enc : TypeId × Value → H) (W : World) (base : Nat) (args : Array Value) (ds gs : List (DataW H)) (before : List MemPlace)
    (hval : ∀ (j : Nat) t v, Try.f4.params[j]? = some t → args[j]? = some v → Value.okWide Try.prog W .any base t v)
    (hW : DataW.Whole enc Try.prog Try.f4.params.toList Rows.drrFairSpec.vars false W args.toList ds gs before) :
    Calls Try.prog 4 args W fun e W' => ∃ v, e = .returned v ∧ Rows.drrFairSpec.post enc Try.prog Try.f4 false true false false W args v W' := by
  have hW' := hW
  obtain ⟨p, q, hA0, hV, rfl, hfz, hnd⟩ := hW
  have hA : DataW.TrodAll enc Try.prog W 0 (fun _ => true) true Try.f4.params.toList args.toList ds p := hA0
  have hlt := hA.lt
  rw [Try.params4] at hA hval
  obtain ⟨v0, vs0, d0, ds0, p0, q0, hargs, rfl, rfl, h0, r0⟩ := trodAll_cons hA
  obtain ⟨v1, vs1, d1, ds1, p1, q1, hvs1, rfl, rfl, h1, r1⟩ := trodAll_cons r0
  obtain ⟨v2, vs2, d2, ds2, p2, q2, hvs2, rfl, rfl, h2, r2⟩ := trodAll_cons r1
  obtain ⟨v3, vs3, d3, ds3, p3, q3, hvs3, rfl, rfl, h3, r3⟩ := trodAll_cons r2
  obtain ⟨hvsn, rfl, rfl⟩ := trodAll_nil r3
  simp only [hvsn, hvs3, hvs2, hvs1] at hargs
  obtain rfl : args = #[v0, v1, v2, v3] := by cases args; simp_all
  obtain ⟨rfl, rfl⟩ := trodVars_none hV
  clear hA0
  obtain ⟨p0a, cap0, l0, rfl, i0, e0⟩ := open_rows Try.underlying22 Try.underlying24 Try.underlying3 (by kernel_rfl) (by kernel_rfl) (hval 0 22 v0 rfl rfl) h0 (fun x hx => hlt x (by simp [hx]))
  obtain ⟨a1, rfl, rfl, rfl, w1⟩ := open_int Try.underlying3 (hval 1 3 v1 rfl rfl) h1
  have b1 := bounds_int w1
  obtain ⟨a2, rfl, rfl, rfl, w2⟩ := open_int Try.underlying3 (hval 2 3 v2 rfl rfl) h2
  have b2 := bounds_int w2
  obtain ⟨a3, rfl, rfl, rfl, w3⟩ := open_int Try.underlying3 (hval 3 3 v3 rfl rfl) h3
  have b3 := bounds_int w3
  exact law_post 4 laid reads rfl Try.underlying4 rfl hW' ⟨rfl, rfl, rfl⟩ (by
    by_cases h : codeQ l0 a1 = 0
    · by_cases hab : (0 ≤ a2 ∧ a2 ≤ (l0.length : Int) - 1) ∧ (0 ≤ a3 ∧ a3 ≤ (l0.length : Int) - 1)
      · obtain ⟨⟨h1, h2⟩, h3, h4⟩ := hab
        obtain ⟨α, rfl⟩ : ∃ α : Nat, a2 = (α : Int) := ⟨a2.toNat, by omega⟩
        obtain ⟨β, rfl⟩ : ∃ β : Nat, a3 = (β : Int) := ⟨a3.toNat, by omega⟩
        exact law_good _ _ _ l0 a1 α β W rfl i0 h (by omega) (by omega)
      · exact law_out _ _ _ l0 a1 a2 a3 W rfl i0 h hab
    · exact law_bad _ _ _ l0 a1 a2 a3 W rfl i0 _ rfl h)

set_option maxRecDepth 100000 in
theorem lifted (os : Os) (started : os.Started) (H : Type) (enc : TypeId × Value → H) :
    ReturnsInHanded {} Try.checked os 4 .any (Rows.drrFairSpec.pre6 enc Try.prog Try.f4 Rows.drrFairRow.domain false) (Rows.drrFairSpec.post enc Try.prog Try.f4 false true false false) := by
  refine returnsInHanded_of_change (C := Try.checked) own started (by kernel_rfl) Try.func4
    (ChangeSpec.witness6 (enc := enc) (C := Try.checked) false ⟨#[], #[.slice none 0 0, .int .i64 0, .int .i64 0, .int .i64 0], []⟩ 8 (by kernel_rfl) (by kernel_rfl) (by kernel_rfl) (by kernel_rfl)) ?_
  intro W base args ds gs before hval hW _ _
  exact contract H enc W base args ds gs before hval hW

theorem proved : Rows.DrrFairSaid :=
  OpenClaim.holds_of_wide 4 Try.f4 rfl rfl rfl rfl rfl rfl rfl ⟨rfl, rfl, rfl, rfl, rfl⟩ rfl rfl rfl rfl rfl (by kernel_rfl) Try.func4 (by kernel_rfl)
    (of_decide_eq_true (by kernel_rfl)) (by unfold Func.isWrapper; first | (rw [if_pos (by decide +kernel)]; kernel_rfl) | (rw [if_neg (by decide +kernel)]; exact ⟨rfl, rfl⟩))
    (fun os started H enc _ => lifted os started H enc)
end Go.Proofs.Ytcdiejalplgclaa.DrrFairL
