/- Package learn, the document's answer: Heard. No statement is proved here. -/
import Derived.Test.YtbgbmchpikdgoaaDoorLearnRef2
namespace Go.Proofs.YtbgbmchpikdgoaaDoor.Learn
open Go.ChangeShapes Go.WideShapes Go.ChangeAt Go.RowKit Go.Proofs.YtbgbmchpikdgoaaDoor.Kit Go.Proofs.YtbgbmchpikdgoaaDoor.App Go.Proofs.YtbgbmchpikdgoaaDoor.Err
set_option linter.unusedVariables false
set_option maxRecDepth 20000
set_option maxHeartbeats 4000000
theorem rheard_any (pa pp : Option Addr) (n m ca cp : Nat) (l : List E) (y q : Int) (w : World) (hn : n = l.length) (hm : m = l.length) (hi : Ints w pa ca (l.map Prod.fst)) (hj : Ints w pp cp (l.map Prod.snd)) (hok : Ok l) (hy : isA y) (hq : isP q) :
    Calls Tryd.prog 13 #[.agg #[.slice pa n ca, .slice pp m cp], .int .i64 y, .int .i64 q] w fun e w' => ∃ pa' pp' ca' cp', e = .returned (.agg #[.slice pa' (hear l y q).length ca', .slice pp' (hear l y q).length cp']) ∧ Two w.heap.size w' pa' pp' ca' cp' (hear l y q) ∧ Below w.heap.size w w' := by
  have HL8 := Lib.hid (show l.length ≤ 9 by have := hok.len; omega)
  have HB8 := Lib.hid (but_ok hok y).len
  have WY := Lib.hid (show (Lit.int .i64 y).wf = true by have := hy.1; have := hy.2; simp [Lit.wf, IntKind.min, IntKind.max, IntKind.signed, IntKind.bits]; omega)
  have WQ := Lib.hid (show (Lit.int .i64 q).wf = true by have := hq.1; have := hq.2; simp [Lit.wf, IntKind.min, IntKind.max, IntKind.signed, IntKind.bits]; omega)
  clear hok hy hq
  have hlen := hi.len_le
  rw [List.length_map, ← hn] at hlen
  obtain ⟨B, hB⟩ : ∃ B, w.heap.size = B := ⟨_, rfl⟩
  obtain ⟨w3, h3⟩ : ∃ w3, ((w.alloc (.cells #[.slice pa n ca, .slice pp m cp] 39)).alloc (.cells #[.slice none 0 0, .slice none 0 0] 39)).alloc (.cells #[.slice none 0 0, .slice none 0 0] 39) = w3 := ⟨_, rfl⟩
  have hx1 : Blk 39 w3 B [.slice pa n ca, .slice pp m cp] := by
    rw [← h3, ← hB]
    exact ((Blk.new w 39 _).alloc _).alloc _
  have hx2 : Blk 39 w3 (B + 1) [.slice none 0 0, .slice none 0 0] := by
    rw [← h3, ← hB]
    have := (Blk.new (w.alloc (.cells #[.slice pa n ca, .slice pp m cp] 39)) 39 [.slice none 0 0, .slice none 0 0]).alloc (.cells #[.slice none 0 0, .slice none 0 0] 39)
    rw [show (w.alloc (.cells #[.slice pa n ca, .slice pp m cp] 39)).heap.size = w.heap.size + 1 by simp] at this
    exact this
  have hx3 : Blk 39 w3 (B + 2) [.slice none 0 0, .slice none 0 0] := by
    rw [← h3, ← hB]
    have := Blk.new ((w.alloc (.cells #[.slice pa n ca, .slice pp m cp] 39)).alloc (.cells #[.slice none 0 0, .slice none 0 0] 39)) 39 [.slice none 0 0, .slice none 0 0]
    rw [show ((w.alloc (.cells #[.slice pa n ca, .slice pp m cp] 39)).alloc (.cells #[.slice none 0 0, .slice none 0 0] 39)).heap.size = w.heap.size + 2 by simp] at this
    exact this
  have hb3 : Below w.heap.size w w3 := by rw [← h3]; exact balloc (balloc (balloc (brefl w) _) _) _
  have hx3l := hx3.lt
  have HP0 := Lib.hid (show Pr (fun k => k ≤ B + 1) w3 w3 (B + 2) (.slice none 0 0) (.slice none 0 0) [] [] from
    ⟨hx3, OwnI.nil _ _, OwnI.nil _ _, Apt.nil _, fun k hk => by simp [Value.ownBlock] at hk, fun k hk => by simp [Value.ownBlock] at hk, by omega, fun k hk => by omega, Keep.refl _ _⟩)
  have HBX := Lib.hid hx1
  have HBR := Lib.hid hx2
  have HB3 := Lib.hid hb3
  have HBB := Lib.hid hB
  have HI := Lib.hid (fun W (hW : Below w.heap.size w W) => hi.below hW)
  have HJ := Lib.hid (fun W (hW : Below w.heap.size w W) => hj.below hW)
  have HN := Lib.hid hn
  have HM := Lib.hid hm
  have H3 := Lib.hid h3
  clear hi hj hn hm hx1 hx2 hx3 hb3 hx3l hB h3
  go_enter Tryd.func13, Tryd.ntmps13
  go_wp2_with fail
  rw [H3.out, HBB.out]
  go_loopw [8] (fun iv wr => ∃ (k : Nat) (va vp : Value), k ≤ n ∧ iv = .int .i64 (k : Int) ∧ Hid (Pr (fun k => k ≤ B + 1) w3 wr (B + 2) va vp ((but (l.take k) y).map Prod.fst) ((but (l.take k) y).map Prod.snd))) (fun i _ => n - (intOf i).toNat)
  case atStart => exact ⟨0, _, _, Nat.zero_le _, rfl, HP0⟩
  case round =>
    obtain ⟨k, va, vp, hk, rfl, HH⟩ := hrel
    clear HP0
    have HWR := Lib.hid (HB3.out.trans (HH.out.kp.below (fun k hk => by have := HBB.out; omega)))
    have d0 := (HH.out.zblk HBX.out (by omega)).cell 0 _ rfl
    have d1 := (HH.out.zblk HBX.out (by omega)).cell 1 _ rfl
    by_cases hlt : k < n
    · have u1 : decide ((k : Int) < (n : Int)) = true := decide_eq_true (by omega)
      have hkl : k < l.length := by rw [← HN.out]; exact hlt
      have hkm : (k : Int) < (m : Int) := by have := HM.out; omega
      obtain ⟨x, hx⟩ : ∃ x, l[k]? = some x := ⟨_, List.getElem?_eq_getElem hkl⟩
      have hIw := HI.out wr HWR.out
      have hJw := HJ.out wr HWR.out
      have hw1 := hIw.2.2.1 k
      have hw2 := hJw.2.2.1 k
      obtain ⟨b0, off, e0, hb0, hc⟩ := hIw.2.2.2 (by rw [List.length_map]; omega)
      obtain ⟨b1, of1, e1, hb1, hcc⟩ := hJw.2.2.2 (by rw [List.length_map]; omega)
      have hc1 := hc k (by rw [List.length_map]; exact hkl)
      have hc2 := hcc k (by rw [List.length_map]; exact hkl)
      rw [fst_at hx] at hc1 hw1
      rw [snd_at hx] at hc2 hw2
      have HT := Lib.hid (take_at hx)
      have hfl : (but (l.take k) y).length ≤ k := Nat.le_trans (List.length_filter_le _ _) (by rw [List.length_take]; omega)
      have hlL := HL8.out
      have hk9 : k ≤ 9 := by have := HN.out; omega
      obtain ⟨x1, x2⟩ := x
      simp only at hc1 hc2 hw1 hw2
      have WX1 := Lib.hid hw1
      have WX2 := Lib.hid hw2
      have HZ := Lib.hid (And.intro e0 e1)
      subst e0; subst e1
      clear hc hcc hkl hx hIw hJw hw1 hw2 hb0 hb1 hlL HZ
      by_cases hxy : x1 = y
      · have u2 : (x1 != y) = false := by rw [bne_eq_false_iff_eq]; exact hxy
        have HE := Lib.hid (but_yes (l.take k) (x := (x1, x2)) hxy)
        clear hxy hfl
        go_wp2_with fail
        go_roundw
        case rel => exact ⟨k + 1, va, vp, by omega, by first | rfl | go_num, by rw [HT.out, HE.out]; exact HH⟩
        case measure => simp [intOf]; omega
      · have u2 : (x1 != y) = true := by rw [bne_iff_ne]; exact hxy
        have HE := Lib.hid (but_not (l.take k) (x := (x1, x2)) hxy)
        obtain ⟨la, hla⟩ : ∃ la, (but (l.take k) y).map Prod.fst = la := ⟨_, rfl⟩
        obtain ⟨lp, hlp⟩ : ∃ lp, (but (l.take k) y).map Prod.snd = lp := ⟨_, rfl⟩
        have hna : la.length = (but (l.take k) y).length := by rw [← hla, List.length_map]
        have hnp : lp.length = (but (l.take k) y).length := by rw [← hlp, List.length_map]
        have HE1 := Lib.hid (show (but (l.take (k + 1)) y).map Prod.fst = la ++ [x1] by rw [HT.out, HE.out, List.map_append, hla]; rfl)
        have HE2 := Lib.hid (show (but (l.take (k + 1)) y).map Prod.snd = lp ++ [x2] by rw [HT.out, HE.out, List.map_append, hlp]; rfl)
        rw [hla, hlp] at HH
        generalize (but (l.take k) y).length = N at hna hnp hfl
        have hN9 : N ≤ 9 := by omega
        obtain ⟨pf, cf, ef, _⟩ := HH.out.oa.form
        obtain ⟨pg, cg0, eg, _⟩ := HH.out.op.form
        rw [hna] at ef
        rw [hnp] at eg
        subst ef; subst eg
        have LN1 := Lib.hid hna
        have LN2 := Lib.hid hnp
        have LB1 := Lib.hid (show la.length ≤ 9 by omega)
        have LB2 := Lib.hid (show lp.length ≤ 9 by omega)
        clear hxy hfl hla hlp hna hnp hN9 HE
        go_wp2_with fail
        have HCO := Lib.hid (HH.out.oa.drew.alloc (.cells #[.int .i64 x1] 3))
        have HCI := Lib.hid (Ints.one wr.drew x1 WX1.out)
        have HCB := Lib.hid (HH.out.blk.drew.alloc (.cells #[.int .i64 x1] 3))
        have HCN := Lib.hid (fun e : some (B + 2) = (Value.slice pf N cf).ownBlock => (HH.out.na _ e.symm).1 rfl)
        have HCG := Lib.hid (show wr.grownBy (wr.drew.alloc (.cells #[.int .i64 x1] 3)) (Value.slice pf N cf).ownBlock from gfrom (World.grownBy_alloc wr.drew (.cells #[.int .i64 x1] 3) (Value.slice pf N cf).ownBlock))
        have cg := HH.out.blk.cell 0 _ rfl
        have cg2 : (wr.alloc (.cells #[.int .i64 x1] 3)).cell? ⟨B + 2, 0, none⟩ = some (Value.slice pf N cf) := HCB.out.cell 0 _ rfl
        go_region_law (refine step_app_i rfl (.tmp 24) (.tmp 30) rfl 0 (Value.slice pf N cf) la (some ⟨wr.drew.heap.size, 0, none⟩) 1 1 [x1] rfl HCO.out rfl rfl HCI.out (by simp; have := LB1.out; omega) (Nat.zero_le _) ?_
                       intro v4 w4 hown4 hg4 hat4
                       have hb4 := HCB.out.more hg4 HCN.out
                       have hc4 := hb4.cell 0 _ rfl
                       have hf4 := hb4.fz 0
                       obtain ⟨pq, cq, e4, hI4⟩ := hown4.form
                       have hl4 : (la ++ [x1]).length = N + 1 := by rw [List.length_append]; simp; exact LN1.out
                       rw [hl4] at e4
                       subst e4
                       have HOW4 := Lib.hid hown4
                       have HG4 := Lib.hid hg4
                       have HAT4 := Lib.hid hat4
                       clear hown4 hg4 hat4 hb4 hI4 hl4)
        all_goals
          have HGW := Lib.hid (gtrans_i HCG.out HG4.out)
          have HH5 := Lib.hid (HH.out.app1 HGW.out HOW4.out (fun k hk => by
            rcases HAT4.out with h | h
            · exact .inl (by rw [← h]; exact hk)
            · rw [h] at hk
              injection hk with hk
              exact .inr (by rw [← hk]; simp)))
          generalize w4.setCell ⟨B + 2, 0, none⟩ (.slice pq (N + 1) cq) = w5 at HH5 ⊢
          clear cg cg2 hc4 hf4 HCO HCI HCB HCN HCG HG4 HAT4 HOW4 HGW HH
          have HWR5 := Lib.hid (HB3.out.trans (HH5.out.kp.below (fun k hk => by have := HBB.out; omega)))
          have d0 := (HH5.out.zblk HBX.out (by omega)).cell 0 _ rfl
          have d1 := (HH5.out.zblk HBX.out (by omega)).cell 1 _ rfl
          have hc2 : w5.cell? ⟨b1, of1 + k, none⟩ = some (.int .i64 x2) := by
            have h := HJ.out w5 HWR5.out
            have h2 := HJ.out wr HWR.out
            obtain ⟨b1', of1', e1', _, hcc⟩ := h.2.2.2 (by rw [List.length_map]; have := HN.out; omega)
            obtain ⟨b2', of2', e2', _, hcc2⟩ := h2.2.2.2 (by rw [List.length_map]; have := HN.out; omega)
            injection e1' with e1'
            injection e1' with ea eb
            injection e2' with e2'
            injection e2' with ec ed
            subst ea; subst eb; subst ec; subst ed
            have q1 := hcc k (by rw [List.length_map]; have := HN.out; omega)
            have q2 := hcc2 k (by rw [List.length_map]; have := HN.out; omega)
            rw [hc2] at q2
            rw [q1, ← q2]
          clear HWR
          go_wp2_with fail
          have HCO := Lib.hid (HH5.out.op.drew.alloc (.cells #[.int .i64 x2] 3))
          have HCI := Lib.hid (Ints.one w5.drew x2 WX2.out)
          have HCB := Lib.hid (HH5.out.blk.drew.alloc (.cells #[.int .i64 x2] 3))
          have HCN := Lib.hid (fun e : some (B + 2) = (Value.slice pg N cg0).ownBlock => (HH5.out.np _ e.symm).1 rfl)
          have HCG := Lib.hid (show w5.grownBy (w5.drew.alloc (.cells #[.int .i64 x2] 3)) (Value.slice pg N cg0).ownBlock from gfrom (World.grownBy_alloc w5.drew (.cells #[.int .i64 x2] 3) (Value.slice pg N cg0).ownBlock))
          have cg := HH5.out.blk.cell 1 _ rfl
          have cg2 : (w5.alloc (.cells #[.int .i64 x2] 3)).cell? ⟨B + 2, 1, none⟩ = some (Value.slice pg N cg0) := HCB.out.cell 1 _ rfl
          go_region_law (refine step_app_i rfl (.tmp 34) (.tmp 40) rfl 0 (Value.slice pg N cg0) lp (some ⟨w5.drew.heap.size, 0, none⟩) 1 1 [x2] rfl HCO.out rfl rfl HCI.out (by simp; have := LB2.out; omega) (Nat.zero_le _) ?_
                         intro v4 w6 hown4 hg4 hat4
                         have hb4 := HCB.out.more hg4 HCN.out
                         have hc4 := hb4.cell 1 _ rfl
                         have hf4 := hb4.fz 1
                         obtain ⟨pr, cr, e4, hI4⟩ := hown4.form
                         have hl4 : (lp ++ [x2]).length = N + 1 := by rw [List.length_append]; simp; exact LN2.out
                         rw [hl4] at e4
                         subst e4
                         have HOW4 := Lib.hid hown4
                         have HG4 := Lib.hid hg4
                         have HAT4 := Lib.hid hat4
                         clear hown4 hg4 hat4 hb4 hI4 hl4)
          all_goals
            have HGW := Lib.hid (gtrans_i HCG.out HG4.out)
            have HH7 := Lib.hid (HH5.out.app2 HGW.out HOW4.out (fun k hk => by
              rcases HAT4.out with h | h
              · exact .inl (by rw [← h]; exact hk)
              · rw [h] at hk
                injection hk with hk
                exact .inr (by rw [← hk]; simp)))
            generalize w6.setCell ⟨B + 2, 1, none⟩ (.slice pr (N + 1) cr) = w7 at HH7 ⊢
            clear cg cg2 hc4 hf4 HCO HCI HCB HCN HCG HG4 HAT4 HOW4 HGW HH5
            go_wp2_with fail
            go_roundw
            case rel => exact ⟨k + 1, _, _, by omega, by first | rfl | go_num, by rw [HE1.out, HE2.out]; exact HH7⟩
            case measure => simp [intOf]; omega
    · obtain rfl : k = n := by omega
      have u1 : decide ((k : Int) < (k : Int)) = false := decide_eq_false (by omega)
      rw [List.take_of_length_le (by rw [HN.out]; exact Nat.le_refl _)] at HH
      obtain ⟨la, hla⟩ : ∃ la, (but l y).map Prod.fst = la := ⟨_, rfl⟩
      obtain ⟨lp, hlp⟩ : ∃ lp, (but l y).map Prod.snd = lp := ⟨_, rfl⟩
      have hna : la.length = (but l y).length := by rw [← hla, List.length_map]
      have hnp : lp.length = (but l y).length := by rw [← hlp, List.length_map]
      have hB8 := HB8.out
      have HEA := Lib.hid (show hear l y q = cut8 (but l y ++ [(y, q)]) from rfl)
      rw [hla, hlp] at HH
      have HLA := Lib.hid hla
      have HLP := Lib.hid hlp
      obtain ⟨N, hN⟩ : ∃ N, (but l y).length = N := ⟨_, rfl⟩
      rw [hN] at hna hnp hB8
      obtain ⟨pf, cf, ef, _⟩ := HH.out.oa.form
      obtain ⟨pg, cg0, eg, _⟩ := HH.out.op.form
      rw [hna] at ef
      rw [hnp] at eg
      subst ef; subst eg
      have g0 := HH.out.blk.cell 0 _ rfl
      have g1 := (HH.out.blk.alloc (.cells #[.int .i64 y] 3)).cell 0 _ rfl
      have LN1 := Lib.hid hna
      have LN2 := Lib.hid hnp
      have LB1 := Lib.hid (show la.length ≤ 9 by omega)
      have LB2 := Lib.hid (show lp.length ≤ 9 by omega)
      have HNN := Lib.hid hN
      clear hla hlp hna hnp hN
      by_cases hN8 : N = 8
      · subst hN8
        go_wp2_with (first
          | (at_builtin
             refine wp_app rfl (.tmp 44) (.tmp 46) rfl 0 (.slice pf 8 cf) la (some ⟨wr.heap.size, 0, none⟩) 1 1 [y] rfl (HH.out.oa.alloc _) rfl rfl (Ints.one wr y WY.out) (by simp; have := LB1.out; omega) (Nat.zero_le _) ?_
             intro v4 w4 hown4 hg4 hat4
             obtain ⟨pe, ce, ee, _⟩ := hown4.form
             rw [show (la ++ [y]).length = 9 by rw [List.length_append]; simp; have := LN1.out; omega] at ee
             subst ee
             have HH5 := Lib.hid (HH.out.app1 (gtrans_i (World.grownBy_alloc wr (.cells #[.int .i64 y] 3) _) hg4) hown4 (fun k hk => by
               rcases hat4 with h | h
               · exact .inl (by rw [← h]; exact hk)
               · rw [h] at hk
                 injection hk with hk
                 exact .inr (by rw [← hk]; simp)))
             have hb4 := (HH.out.blk.alloc (.cells #[.int .i64 y] 3)).more hg4 (fun e => (HH.out.na _ e.symm).1 rfl)
             have i0 := hb4.cell 0 _ rfl
             have i1 := hb4.fz 0
             have i2 := HH5.out.blk.cell 1 _ rfl
             have i3 := (HH5.out.blk.alloc (.cells #[.int .i64 q] 3)).cell 1 _ rfl
             have HI5 := Lib.hid (show Ints ((w4.setCell ⟨B + 2, 0, none⟩ (.slice pe 9 ce)).alloc (.cells #[.int .i64 q] 3)) (some ⟨w4.heap.size, 0, none⟩) 1 [q] from by
               have h := Ints.one (w4.setCell ⟨B + 2, 0, none⟩ (.slice pe 9 ce)) q WQ.out
               rw [size_set] at h
               exact h)
             obtain ⟨ga, rfl, -, hca, hcam⟩ := own_block hown4 (by omega)
             have z1 : (ce = 1) = False := by rw [eq_iff_iff]; exact ⟨fun h => by omega, False.elim⟩
             clear hb4 hg4 hown4 hat4)
          | (at_builtin
             refine wp_app rfl (.tmp 50) (.tmp 52) rfl 0 (.slice pg 8 cg0) lp (some ⟨w4.heap.size, 0, none⟩) 1 1 [q] rfl (HH5.out.op.alloc _) rfl rfl HI5.out (by simp; have := LB2.out; omega) (Nat.zero_le _) ?_
             intro v6 w6 hown6 hg6 hat6
             obtain ⟨pq, cq, eq, _⟩ := hown6.form
             rw [show (lp ++ [q]).length = 9 by rw [List.length_append]; simp; have := LN2.out; omega] at eq
             subst eq
             have HH7 := Lib.hid (HH5.out.app2 (gtrans_i (World.grownBy_alloc _ (.cells #[.int .i64 q] 3) _) hg6) hown6 (fun k hk => by
               rcases hat6 with h | h
               · exact .inl (by rw [← h]; exact hk)
               · rw [h] at hk
                 injection hk with hk
                 exact .inr (by rw [← hk]; simp)))
             have hb6 := (HH5.out.blk.alloc (.cells #[.int .i64 q] 3)).more hg6 (fun e => (HH5.out.np _ e.symm).1 rfl)
             have j0 := hb6.cell 1 _ rfl
             have j1 := hb6.fz 1
             obtain ⟨gq, rfl, -, hcq, hcqm⟩ := own_block hown6 (by omega)
             have z2 : (cq = 1) = False := by rw [eq_iff_iff]; exact ⟨fun h => by omega, False.elim⟩
             have b7 := HH7.out.blk
             have b8 := b7.set 0 (.slice (some ⟨ga, 1, none⟩) 8 (ce - 1))
             have b9 := b8.set 1 (.slice (some ⟨gq, 1, none⟩) 8 (cq - 1))
             have kr := ((HH7.out.zblk HBR.out (by omega)).other (B + 2) 0 (.slice (some ⟨ga, 1, none⟩) 8 (ce - 1)) (by omega)).other (B + 2) 1 (.slice (some ⟨gq, 1, none⟩) 8 (cq - 1)) (by omega)
             have HKR := Lib.hid kr
             have k0 := b7.cell 0 _ rfl
             have k1 := b7.fz 0
             have k2 := b8.cell 1 _ rfl
             have k3 := b8.fz 1
             have k4 := b9.cell 0 _ rfl
             have k5 := b9.cell 1 _ rfl
             have k6 := kr.cell 0 _ rfl
             have k7 := kr.cell 1 _ rfl
             have k8 := kr.fz 0
             have k9 := kr.fz 1
             clear kr b7 b8 b9
             clear hb6 hg6 hown6 hat6))
        have HLN0 := Lib.hid (show (but l y ++ [(y, q)]).length = 9 by rw [List.length_append, HNN.out]; rfl)
        have HL2 := Lib.hid (show hear l y q = (but l y ++ [(y, q)]).drop 1 by rw [HEA.out, cut8, if_pos (by rw [HLN0.out]; omega)])
        have HLN := Lib.hid (show (hear l y q).length = 8 by rw [HL2.out, List.length_drop, HLN0.out])
        obtain ⟨ht, ha, hp⟩ := HH7.out.two (L := but l y ++ [(y, q)]) (W := w.heap.size) (by rw [List.map_append, HLA.out]; rfl) (by rw [List.map_append, HLP.out]; rfl) (by have := HBB.out; omega)
        have ht2 := ht.cut (by rw [HLN0.out]; omega)
        rw [← HL2.out] at ht2
        have ha1 := ha _ rfl
        have hp1 := hp _ rfl
        have HWE := Lib.hid (HB3.out.trans (HH7.out.kp.below (fun k hk => by have := HBB.out; omega)))
        refine bodyPost_ret (results_two rfl Tryd.isAgg39 Tryd.sizeOf39 _ _ _ rfl rfl rfl _ _ (((HKR.out.set 0 (.slice (some ⟨ga, 1, none⟩) 8 (ce - 1))).set 1 (.slice (some ⟨gq, 1, none⟩) 8 (cq - 1))).cell 0 _ rfl) (((HKR.out.set 0 (.slice (some ⟨ga, 1, none⟩) 8 (ce - 1))).set 1 (.slice (some ⟨gq, 1, none⟩) 8 (cq - 1))).cell 1 _ rfl)) rfl ?_
        have s1 : ∀ x : Addr, some (⟨ga, 1, none⟩ : Addr) = some x → x.block = ga := fun x e => by injection e with e; rw [← e]
        have s2 : ∀ x : Addr, some (⟨gq, 1, none⟩ : Addr) = some x → x.block = gq := fun x e => by injection e with e; rw [← e]
        exact ⟨_, _, _, _, by rw [HLN.out], (((ht2.set (B + 2) 0 _ (fun x e => by rw [s1 x e]; exact ha1.1) (fun x e => by rw [s2 x e]; exact hp1.1)).set (B + 2) 1 _ (fun x e => by rw [s1 x e]; exact ha1.1) (fun x e => by rw [s2 x e]; exact hp1.1)).set (B + 1) 0 _ (fun x e => by rw [s1 x e]; exact ha1.2) (fun x e => by rw [s2 x e]; exact hp1.2)).set (B + 1) 1 _ (fun x e => by rw [s1 x e]; exact ha1.2) (fun x e => by rw [s2 x e]; exact hp1.2),
          below_set (below_set (below_set (below_set HWE.out (B + 2) 0 _ (by have := HBB.out; omega)) (B + 2) 1 _ (by have := HBB.out; omega)) (B + 1) 0 _ (by have := HBB.out; omega)) (B + 1) 1 _ (by have := HBB.out; omega)⟩
      · have hNz : (N : Int) + 1 ≤ 8 := by omega
        go_wp2_with (first
          | (at_builtin
             refine wp_app rfl (.tmp 44) (.tmp 46) rfl 0 (.slice pf N cf) la (some ⟨wr.heap.size, 0, none⟩) 1 1 [y] rfl (HH.out.oa.alloc _) rfl rfl (Ints.one wr y WY.out) (by simp; have := LB1.out; omega) (Nat.zero_le _) ?_
             intro v4 w4 hown4 hg4 hat4
             obtain ⟨pe, ce, ee, _⟩ := hown4.form
             rw [show (la ++ [y]).length = (N + 1) by rw [List.length_append]; simp; have := LN1.out; omega] at ee
             subst ee
             have HH5 := Lib.hid (HH.out.app1 (gtrans_i (World.grownBy_alloc wr (.cells #[.int .i64 y] 3) _) hg4) hown4 (fun k hk => by
               rcases hat4 with h | h
               · exact .inl (by rw [← h]; exact hk)
               · rw [h] at hk
                 injection hk with hk
                 exact .inr (by rw [← hk]; simp)))
             have hb4 := (HH.out.blk.alloc (.cells #[.int .i64 y] 3)).more hg4 (fun e => (HH.out.na _ e.symm).1 rfl)
             have i0 := hb4.cell 0 _ rfl
             have i1 := hb4.fz 0
             have i2 := HH5.out.blk.cell 1 _ rfl
             have i3 := (HH5.out.blk.alloc (.cells #[.int .i64 q] 3)).cell 1 _ rfl
             have HI5 := Lib.hid (show Ints ((w4.setCell ⟨B + 2, 0, none⟩ (.slice pe (N + 1) ce)).alloc (.cells #[.int .i64 q] 3)) (some ⟨w4.heap.size, 0, none⟩) 1 [q] from by
               have h := Ints.one (w4.setCell ⟨B + 2, 0, none⟩ (.slice pe (N + 1) ce)) q WQ.out
               rw [size_set] at h
               exact h)
             clear hb4 hg4 hown4 hat4)
          | (at_builtin
             refine wp_app rfl (.tmp 50) (.tmp 52) rfl 0 (.slice pg N cg0) lp (some ⟨w4.heap.size, 0, none⟩) 1 1 [q] rfl (HH5.out.op.alloc _) rfl rfl HI5.out (by simp; have := LB2.out; omega) (Nat.zero_le _) ?_
             intro v6 w6 hown6 hg6 hat6
             obtain ⟨pq, cq, eq, _⟩ := hown6.form
             rw [show (lp ++ [q]).length = (N + 1) by rw [List.length_append]; simp; have := LN2.out; omega] at eq
             subst eq
             have HH7 := Lib.hid (HH5.out.app2 (gtrans_i (World.grownBy_alloc _ (.cells #[.int .i64 q] 3) _) hg6) hown6 (fun k hk => by
               rcases hat6 with h | h
               · exact .inl (by rw [← h]; exact hk)
               · rw [h] at hk
                 injection hk with hk
                 exact .inr (by rw [← hk]; simp)))
             have hb6 := (HH5.out.blk.alloc (.cells #[.int .i64 q] 3)).more hg6 (fun e => (HH5.out.np _ e.symm).1 rfl)
             have j0 := hb6.cell 1 _ rfl
             have j1 := hb6.fz 1
             have k0 := HH7.out.blk.cell 0 _ rfl
             have k1 := HH7.out.blk.cell 1 _ rfl
             have kr := HH7.out.zblk HBR.out (by omega)
             have k2 := kr.cell 0 _ rfl
             have k3 := kr.cell 1 _ rfl
             have k4 := kr.fz 0
             have k5 := kr.fz 1
             clear kr
             clear hb6 hg6 hown6 hat6))
        all_goals first
          | (exfalso; omega)
          | (have HL2 := Lib.hid (show hear l y q = but l y ++ [(y, q)] by rw [HEA.out, cut8, if_neg (by rw [List.length_append, HNN.out]; simp; omega)])
             have HLN := Lib.hid (show (hear l y q).length = N + 1 by rw [HL2.out, List.length_append, HNN.out]; rfl)
             obtain ⟨ht, ha, hp⟩ := HH7.out.two (L := hear l y q) (W := w.heap.size) (by rw [HL2.out, List.map_append, HLA.out]; rfl) (by rw [HL2.out, List.map_append, HLP.out]; rfl) (by have := HBB.out; omega)
             have HWE := Lib.hid (HB3.out.trans (HH7.out.kp.below (fun k hk => by have := HBB.out; omega)))
             have hr := HH7.out.zblk HBR.out (by omega)
             refine bodyPost_ret (results_two rfl Tryd.isAgg39 Tryd.sizeOf39 _ _ _ rfl rfl rfl _ _ (((hr.set 0 (.slice pe (N + 1) ce)).set 1 (.slice pq (N + 1) cq)).cell 0 _ rfl) (((hr.set 0 (.slice pe (N + 1) ce)).set 1 (.slice pq (N + 1) cq)).cell 1 _ rfl)) rfl ?_
             exact ⟨pe, pq, ce, cq, by rw [HLN.out], (ht.set (B + 1) 0 _ (fun x e => (ha x e).2) (fun x e => (hp x e).2)).set (B + 1) 1 _ (fun x e => (ha x e).2) (fun x e => (hp x e).2), below_set (below_set HWE.out (B + 1) 0 _ (by have := HBB.out; omega)) (B + 1) 1 _ (by have := HBB.out; omega)⟩)
end Go.Proofs.YtbgbmchpikdgoaaDoor.Learn
