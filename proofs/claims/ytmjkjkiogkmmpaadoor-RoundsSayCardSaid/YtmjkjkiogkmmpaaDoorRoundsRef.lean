/- The document's answer on rounds: the order, and of each packet its round. No statement is proved here. -/
import Derived.Test.YtmjkjkiogkmmpaaDoorRoundsRefMath
import Derived.Test.YtmjkjkiogkmmpaaDoorRounds4
import Derived.Test.YtmjkjkiogkmmpaaDoorDrrRef
import Derived.BigRegion
import Derived.BigQuiet
import Derived.Deep.LoopGhost
namespace Go.Proofs.YtmjkjkiogkmmpaaDoor.Rounds
open Go.ChangeShapes Go.WideShapes Go.ChangeAt Go.RowKit Go.Proofs.YtmjkjkiogkmmpaaDoor.Kit Go.Proofs.YtmjkjkiogkmmpaaDoor.App Go.Proofs.YtmjkjkiogkmmpaaDoor.Err Go.Proofs.YtmjkjkiogkmmpaaDoor.Drr
set_option linter.unusedVariables false
set_option maxRecDepth 20000
set_option maxHeartbeats 4000000

/-- Two slices that are written in place, two that grow. -/
structure Four (w0 w : World) (G1 G2 B n : Nat) (A S : List Int) (u v : Value) (X Y : List Int) : Prop where
  two : Two w0 w G1 G2 n A S
  p1 : OwnI w B u X
  p2 : OwnI w B v Y
  apt : Apt u v
  lt2 : G2 < B
  siz : B ≤ w.heap.size
variable {w0 w w' : World} {G1 G2 B n : Nat} {A S X Y X' Y' : List Int} {u v u' v' : Value}
theorem Four.below (H : Four w0 w G1 G2 B n A S u v X Y) (hb : Below w.heap.size w w') : Four w0 w' G1 G2 B n A S u v X Y :=
  ⟨⟨H.two.o1.below hb, H.two.o2.below hb, H.two.lo, H.two.lt, bcall H.two.bel hb⟩, H.p1.below hb, H.p2.below hb, H.apt, H.lt2, Nat.le_trans H.siz hb.size⟩
theorem Four.drewN (H : Four w0 w G1 G2 B n A S u v X Y) (m : Nat) : Four w0 (w.drewN m) G1 G2 B n A S u v X Y := H.below (bdrewN (brefl w) m)
theorem Four.drew (H : Four w0 w G1 G2 B n A S u v X Y) : Four w0 w.drew G1 G2 B n A S u v X Y := H.below (bdrewN (brefl w) 1)
theorem Four.alloc (H : Four w0 w G1 G2 B n A S u v X Y) (ob : Obj) : Four w0 (w.alloc ob) G1 G2 B n A S u v X Y := H.below (balloc (brefl w) ob)
theorem Four.set1 (H : Four w0 w G1 G2 B n A S u v X Y) (k : Nat) (x : Int) (hx : (Lit.int .i64 x).wf = true) : Four w0 (w.setCell ⟨G1, k, none⟩ (.int .i64 x)) G1 G2 B n (A.set k x) S u v X Y :=
  ⟨H.two.set1 k x hx, H.p1.more (set_grown w G1 k _) (own_ge H.p1 (Nat.lt_trans H.two.lt H.lt2)), H.p2.more (set_grown w G1 k _) (own_ge H.p2 (Nat.lt_trans H.two.lt H.lt2)), H.apt, H.lt2, by have := (set_grown w G1 k (.int .i64 x)).size; have := H.siz; omega⟩
theorem Four.set2 (H : Four w0 w G1 G2 B n A S u v X Y) (k : Nat) (x : Int) (hx : (Lit.int .i64 x).wf = true) : Four w0 (w.setCell ⟨G2, k, none⟩ (.int .i64 x)) G1 G2 B n A (S.set k x) u v X Y :=
  ⟨H.two.set2 k x hx, H.p1.more (set_grown w G2 k _) (own_ge H.p1 H.lt2), H.p2.more (set_grown w G2 k _) (own_ge H.p2 H.lt2), H.apt, H.lt2, by have := (set_grown w G2 k (.int .i64 x)).size; have := H.siz; omega⟩
theorem Four.grow2 (H : Four w0 w G1 G2 B n A S u v X Y) {q : Value} {Z : List Int} (ho : OwnI w B q Z) (hg : w.grownBy w' q.ownBlock) : Two w0 w' G1 G2 n A S :=
  ⟨H.two.o1.more hg (.inr (fun e => by have := (ho.lt G1 e.symm).1; have := H.two.lt; have := H.lt2; omega)), H.two.o2.more hg (.inr (fun e => by have := (ho.lt G2 e.symm).1; have := H.lt2; omega)), H.two.lo, H.two.lt,
    H.two.bel.grown hg H.two.bel.size (fun k hk => by have := (ho.lt k hk).1; have := H.two.lo; have := H.two.lt; have := H.lt2; omega)⟩
theorem Four.app1 (H : Four w0 w G1 G2 B n A S u v X Y) (ho : OwnI w' B u' X') (hg : w.grownBy w' u.ownBlock) (hv : u'.ownBlock = u.ownBlock ∨ u'.ownBlock = some w.heap.size) : Four w0 w' G1 G2 B n A S u' v X' Y :=
  ⟨H.grow2 H.p1 hg, ho, H.p2.more hg H.apt.symm.ne, (H.apt.symm.grow (fun k hk => (H.p2.lt k hk).2) (Nat.le_refl _) hv).symm, H.lt2, Nat.le_trans H.siz hg.size⟩
theorem Four.app2 (H : Four w0 w G1 G2 B n A S u v X Y) (ho : OwnI w' B v' Y') (hg : w.grownBy w' v.ownBlock) (hv : v'.ownBlock = v.ownBlock ∨ v'.ownBlock = some w.heap.size) : Four w0 w' G1 G2 B n A S u v' X Y' :=
  ⟨H.grow2 H.p2 hg, H.p1.more hg H.apt.ne, ho, H.apt.grow (fun k hk => (H.p1.lt k hk).2) (Nat.le_refl _) hv, H.lt2, Nat.le_trans H.siz hg.size⟩
/-- The rows that came. -/
theorem rows_all {w : World} {p : Option Addr} {cap : Nat} {ls : List (List Int)} (h : RowsI w p cap ls) (h0 : 0 < ls.length) :
    ∃ b off, p = some ⟨b, off, none⟩ ∧ ∀ k, k < ls.length → ∃ q c, Ints w q c (row ls k) ∧ ∀ W : World, Below w.heap.size w W → W.cell? ⟨b, off + k, none⟩ = some (.slice q (row ls k).length c) := by
  obtain ⟨b, off, e, hb, hc⟩ := h.2.2 h0
  refine ⟨b, off, e, fun k hk => ?_⟩
  obtain ⟨q, c, h1, h2⟩ := hc k hk
  exact ⟨q, c, h2, fun W hW => (hW.cell (p := ⟨b, off + k, none⟩) hb).trans h1⟩

theorem rrounds_good (p : Option Addr) (cap n : Nat) (ls : List (List Int)) (w : World) (hn : n = ls.length) (hi : RowsI w p cap ls) (hg : Drr.Good ls) (m : List Pk) (hm : Srt ls m) (k : Nat) (hk : m.length = k) :
    Calls Tryd.prog 5 #[.slice p n cap] w fun e w' => ∃ r cr r2 cr2, e = .returned (.tuple #[.slice r k cr, .slice r2 k cr2]) ∧ Ints w' r cr (nums m) ∧ Ints w' r2 cr2 (rnds m) ∧ Below w.heap.size w w' := by
  have TH := Lib.hid (fun W (hW : Below w.heap.size w W) => things_any p cap n ls W hn (hi.below hW) hg k (by rw [← hk, hm.len]))
  have HI := Lib.hid (rows_all hi)
  have HN := Lib.hid hn
  have HG := Lib.hid hg
  have HM := Lib.hid hm
  have HK := Lib.hid hk
  have HLEN := Lib.hid (show ∀ j, ((nums m).take j).length ≤ 40 ∧ ((rnds m).take j).length ≤ 40 from fun j => by
    have := (hm.few hg).len
    rw [List.length_take, List.length_take, rnds_len]
    unfold nums
    rw [List.length_map]
    omega)
  have hn5 : n ≤ 5 := by rw [hn]; exact hg.1
  have hk40 : k ≤ 40 := by rw [← hk]; exact (hm.few hg).len
  clear hn hi hg hm hk
  go_enter Tryd.func5, Tryd.ntmps5
  obtain ⟨w5, hmk1, hou1, hg1⟩ := made_ints w n (by omega)
  obtain ⟨w6, hmk2, hou2, hg2⟩ := made_ints w5 n (by omega)
  have hlt1 := (hou1.lt _ rfl).2
  have hlt2 := (hou2.lt _ rfl).2
  obtain ⟨G1, hG1⟩ : ∃ g, w.heap.size = g := ⟨_, rfl⟩
  obtain ⟨G2, hG2⟩ : ∃ g, w5.heap.size = g := ⟨_, rfl⟩
  obtain ⟨B, hB⟩ : ∃ g, w6.heap.size = g := ⟨_, rfl⟩
  rw [hG1] at hmk1 hou1
  rw [hG2] at hmk2 hou2
  have HF0 := Lib.hid (show Four w w6 G1 G2 B n (atL n ((nums m).take 0)) (sumL ls n ((nums m).take 0)) (.slice none 0 0) (.slice none 0 0) ((nums m).take 0) ((rnds m).take 0) by
    refine ⟨⟨by rw [List.take_zero, atL_zero]; exact hou1.more (row := none) hg2 (.inr (by simp [Value.ownBlock])), by rw [List.take_zero, sumL_zero]; exact hou2, by omega, by rw [← hG1, ← hG2]; exact hlt1, ?_⟩, by rw [List.take_zero]; exact OwnI.nil _ _, by rw [List.take_zero]; exact OwnI.nil _ _, Apt.nil _, by rw [← hG2, ← hB]; exact hlt2, by rw [hB]; exact Nat.le_refl _⟩
    exact ⟨hg2.os.trans hg1.os, hg2.tape.trans hg1.tape, hg2.output.trans hg1.output, Nat.le_trans hg1.size hg2.size, fun k hk => (hg2.block k (Nat.lt_of_lt_of_le hk hg1.size) (by simp)).trans (hg1.block k hk (by simp))⟩)
  clear hou1 hou2 hg1 hg2 hlt1 hlt2 hG1 hG2 hB
  go_wp2_with fail
  clear hmk1 hmk2
  go_loopg [6, 7] k (fun gk ov ev wr => ∃ (j : Nat) (o e : Value), gk + j = k ∧ o = ov ∧ e = ev ∧ Hid (Four w wr G1 G2 B n (atL n ((nums m).take j)) (sumL ls n ((nums m).take j)) o e ((nums m).take j) ((rnds m).take j)))
  case atStart => exact ⟨0, _, _, rfl, rfl, rfl, HF0⟩
  case round =>
    clear HF0
    obtain ⟨j, o, e, hj, rfl, rfl, HF⟩ := hrel
    have HB := Lib.hid HF.out.two.bel
    have T := Lib.hid (TH.out wr HB.out)
    obtain ⟨po, co, ho, hio⟩ := HF.out.p1.form
    have hlo : ((nums m).take j).length = j := by rw [List.length_take]; unfold nums; rw [List.length_map, HK.out]; omega
    rw [hlo] at ho
    subst ho
    clear hio hlo
    by_cases hjk : j < k
    · have u1 : decide ((j : Int) < (k : Int)) = true := decide_eq_true (by omega)
      obtain ⟨x, hx⟩ : ∃ x, m[j]? = some x := ⟨_, List.getElem?_eq_getElem (by rw [HK.out]; exact hjk)⟩
      obtain ⟨z, hzn, hxz⟩ := HM.out.num x (List.mem_of_getElem? hx)
      have HLS := Lib.hid (HM.out.least HG.out hx hxz)
      have HV := Lib.hid (HM.out.val HG.out hx hxz)
      have HNS := Lib.hid (show (nums m).take (j + 1) = (nums m).take j ++ [(z : Int)] by rw [nums_step hx, hxz])
      have HRS := Lib.hid (rnds_step hx)
      obtain ⟨b, off, rfl, hrow⟩ := HI.out (by omega)
      have HROW := Lib.hid hrow
      have hl := HLEN.out j
      generalize (nums m).take j = O at HF HLS HV HNS hl
      generalize (rnds m).take j = R at HF HRS hl
      obtain ⟨l1, l2⟩ := hl
      clear hx hxz hrow
      go_wp2_with fail
      refine T.out.mono ?_; rintro e7 w7 ⟨rfl, hw7⟩
      have hw7 := hw7.symm
      subst hw7
      clear T
      go_wp2_with fail
      generalize wr = w8 at HF HB ⊢
      go_loopw [8, 9] (fun bv iv wr => ∃ (i : Nat) (bb : Int), i ≤ n ∧ iv = .int .i64 i ∧ bv = .int .i64 bb ∧ Hid (∃ q, wr = w8.drewN q) ∧ Hid (Bst ls O z i bb)) (fun _ i _ => n - (intOf i).toNat)
      case atStart => exact ⟨0, -1, Nat.zero_le _, rfl, rfl, Lib.hid ⟨0, rfl⟩, Lib.hid Bst.start⟩
      case round =>
        obtain ⟨i, bb, hi, rfl, rfl, HD, HBS⟩ := hrel
        have HFW : Hid (Four w wr G1 G2 B n (atL n O) (sumL ls n O) (.slice po j co) e O R) := Lib.hid (by obtain ⟨q, rfl⟩ := HD.out; exact HF.out.drewN q)
        by_cases hin : i < n
        · have u2 : decide ((i : Int) < (n : Int)) = true := decide_eq_true (by omega)
          have hil : i < ls.length := by rw [← HN.out]; exact hin
          obtain ⟨qi, ci, hii, hci⟩ := HROW.out i hil
          have ck := hci wr HFW.out.two.bel
          have hiw := hii.below HFW.out.two.bel
          have ca := own_cell HFW.out.two.o1 i (by rw [atL_len]; exact hin)
          rw [atL_get O hin] at ca
          have cs := own_cell HFW.out.two.o2 i (by rw [sumL_len]; exact hin)
          rw [sumL_get ls O hin] at cs
          have hsi := served_in HG.out O i
          have hcle : O.count (i : Int) ≤ 40 := Nat.le_trans List.count_le_length l1
          have hfine := HG.out.row i
          by_cases hc : Cand ls O i
          · have HC := Lib.hid hc
            have hval := val_of hc
            unfold Cand at hc
            have cx := fun (h : 0 < (row ls i).length) => some_ints hiw h
            obtain ⟨qb, qo, rfl⟩ := cx (by omega)
            have cx2 := cell_ints hiw (O.count (i : Int)) hc
            have hx2 := hfine.2 ((row ls i)[O.count (i : Int)]?.getD 0) (by rw [List.getElem?_eq_getElem hc]; exact List.getElem_mem hc)
            have hfl := hfine.1
            clear hfine cx hii hci hiw hil
            generalize (row ls i)[O.count (i : Int)]?.getD 0 = xi at hval cx2 hx2
            generalize (row ls i).length = mi at ck hc hfl
            generalize O.count (i : Int) = ai at ca cx2 hc hcle
            generalize Drr.served ls O i = si at cs hsi hval
            obtain ⟨x1, x2⟩ := hx2
            obtain ⟨s1, s2⟩ := hsi
            have v1 : decide ((ai : Int) < (mi : Int)) = true := decide_eq_true (by omega)
            rcases HBS.out.form HLS.out with rfl | ⟨b2, rfl, hb2⟩
            · have v2 : decide ((-1 : Int) < 0) = true := by decide
              have HB2 := Lib.hid (HBS.out.first HLS.out HC.out)
              clear hval HBS
              go_wp2_with fail
              go_quiet (fail)
              go_wp2_with fail
              go_roundw
              case rel => exact ⟨i + 1, i, by omega, by first | rfl | go_num, by first | rfl | go_num, Lib.hid (by obtain ⟨q, hq⟩ := HD.out; rw [hq]; exact ⟨_, World.drewN_drewN ..⟩), HB2⟩
              case measure => simp [intOf]; omega
            · have HC2 := Lib.hid hb2
              have hbl := hb2.lt
              have hbn : b2 < n := by rw [HN.out]; exact hbl
              have hval2 := val_of hb2
              unfold Cand at hb2
              obtain ⟨qj, cj, hij, hcj⟩ := HROW.out b2 hbl
              have dk := hcj wr HFW.out.two.bel
              have hjw := hij.below HFW.out.two.bel
              have da := own_cell HFW.out.two.o1 b2 (by rw [atL_len]; exact hbn)
              rw [atL_get O hbn] at da
              have ds := own_cell HFW.out.two.o2 b2 (by rw [sumL_len]; exact hbn)
              rw [sumL_get ls O hbn] at ds
              have hsj := served_in HG.out O b2
              have hcle2 : O.count (b2 : Int) ≤ 40 := Nat.le_trans List.count_le_length l1
              have hfine2 := HG.out.row b2
              obtain ⟨rb, ro, rfl⟩ := some_ints hjw (by omega)
              have dx := cell_ints hjw (O.count (b2 : Int)) hb2
              have hy2 := hfine2.2 ((row ls b2)[O.count (b2 : Int)]?.getD 0) (by rw [List.getElem?_eq_getElem hb2]; exact List.getElem_mem hb2)
              have hfl2 := hfine2.1
              clear hfine2 hij hcj hjw hbl
              generalize (row ls b2)[O.count (b2 : Int)]?.getD 0 = xj at hval2 dx hy2
              generalize (row ls b2).length = mj at dk hb2 hfl2
              generalize O.count (b2 : Int) = aj at da dx hb2 hcle2
              generalize Drr.served ls O b2 = sj at ds hsj hval2
              obtain ⟨y1, y2⟩ := hy2
              obtain ⟨t1, t2⟩ := hsj
              have v2 : decide ((b2 : Int) < 0) = false := decide_eq_false (by omega)
              have w1 := wrap_in (n := si + xi) (by omega)
              have w2 := wrap_in (n := sj + xj) (by omega)
              by_cases hv : si + xi < sj + xj
              · have v3 : decide (si + xi < sj + xj) = true := decide_eq_true hv
                have HB2 := Lib.hid (HBS.out.less HLS.out HC.out (by rw [hval, hval2]; exact hv))
                clear hval hval2 HBS hv
                go_wp2_with fail
                go_quiet (fail)
                go_wp2_with fail
                go_roundw
                case rel => exact ⟨i + 1, i, by omega, by first | rfl | go_num, by first | rfl | go_num, Lib.hid (by obtain ⟨q, hq⟩ := HD.out; rw [hq]; exact ⟨_, World.drewN_drewN ..⟩), HB2⟩
                case measure => simp [intOf]; omega
              · have v3 : decide (si + xi < sj + xj) = false := decide_eq_false hv
                have HB2 := Lib.hid (HBS.out.more HLS.out HC.out (by rw [hval, hval2]; exact hv))
                clear hval hval2 HBS hv
                go_wp2_with fail
                go_quiet (fail)
                go_wp2_with fail
                go_roundw
                case rel => exact ⟨i + 1, b2, by omega, by first | rfl | go_num, by first | rfl | go_num, Lib.hid (by obtain ⟨q, hq⟩ := HD.out; rw [hq]; exact ⟨_, World.drewN_drewN ..⟩), HB2⟩
                case measure => simp [intOf]; omega
          · have HB2 := Lib.hid (HBS.out.skip HLS.out hc)
            unfold Cand at hc
            have hfl := hfine.1
            clear hfine hii hci hiw hil cs hsi HBS
            generalize (row ls i).length = mi at ck hc hfl
            generalize O.count (i : Int) = ai at ca hc hcle
            have v1 : decide ((ai : Int) < (mi : Int)) = false := decide_eq_false (by omega)
            go_wp2_with fail
            go_quiet (fail)
            go_wp2_with fail
            go_roundw
            case rel => exact ⟨i + 1, bb, by omega, by first | rfl | go_num, rfl, Lib.hid (by obtain ⟨q, hq⟩ := HD.out; rw [hq]; exact ⟨_, World.drewN_drewN ..⟩), HB2⟩
            case measure => simp [intOf]; omega
        · obtain rfl : i = n := by omega
          have u2 : decide ((i : Int) < (i : Int)) = false := decide_eq_false (by omega)
          have hzi : z < i := by rw [HN.out]; exact hzn
          have hbz := HBS.out.hi hzi
          subst hbz
          clear HBS HD HF HB
          obtain ⟨qz, cz, hiz, hcz⟩ := HROW.out z hzn
          have c1 := hcz wr HFW.out.two.bel
          have hzw := hiz.below HFW.out.two.bel
          have hcd := HLS.out.cand
          have hval := val_of hcd
          rw [← HV.out] at hval
          have HASET := Lib.hid (atL_set O hzi)
          have HSSET := Lib.hid (sumL_set (ls := ls) (o := O) hzi hcd)
          have c2 := own_cell HFW.out.two.o1 z (by rw [atL_len]; exact hzi)
          rw [atL_get O hzi] at c2
          have c3 := own_cell HFW.out.two.o2 z (by rw [sumL_len]; exact hzi)
          rw [sumL_get ls O hzi] at c3
          have f2 := own_fz HFW.out.two.o2 z
          have hsz := served_in HG.out O z
          have hcle : O.count (z : Int) ≤ 40 := Nat.le_trans List.count_le_length l1
          have hfine := HG.out.row z
          unfold Cand at hcd
          obtain ⟨qb, qo, rfl⟩ := some_ints hzw (by omega)
          have c4 := cell_ints hzw (O.count (z : Int)) hcd
          have hx2 := hfine.2 ((row ls z)[O.count (z : Int)]?.getD 0) (by rw [List.getElem?_eq_getElem hcd]; exact List.getElem_mem hcd)
          have hfl := hfine.1
          have HSV := Lib.hid (show Drr.served ls (O ++ [(z : Int)]) z = x.rnd by rw [served_one hcd, if_pos rfl, hval])
          clear hfine hiz hcz hzw HLS HV
          generalize (row ls z)[O.count (z : Int)]?.getD 0 = xi at hval c4 hx2 HSSET
          generalize (row ls z).length = mi at c1 hcd hfl
          obtain ⟨ai, hai⟩ : ∃ a, O.count (z : Int) = a := ⟨_, rfl⟩
          have HAI := Lib.hid hai
          rw [hai] at c2 c4 hcd hcle HASET
          clear hai
          generalize Drr.served ls O z = si at c3 hsz hval HSSET
          obtain ⟨x1, x2⟩ := hx2
          obtain ⟨s1, s2⟩ := hsz
          have w1 := wrap_in (n := si + xi) (by omega)
          have hxr : 0 ≤ x.rnd ∧ x.rnd ≤ 1000 := by omega
          generalize x.rnd = rv at hval HSV HRS hxr
          subst hval
          go_wp2_with fail
          go_region
          have HT2 : Hid (Four w (wr.setCell ⟨G2, z, none⟩ (.int .i64 (si + xi))).drew G1 G2 B i (atL i O) (sumL ls i (O ++ [(z : Int)])) (.slice po j co) e O R) := Lib.hid (by
            have h := (HFW.out.set2 z (si + xi) (wf_in (by omega))).drew
            rwa [HSSET.out] at h)
          clear HFW HSSET c1 c2 c3 c4 f2
          generalize (wr.setCell ⟨G2, z, none⟩ (.int .i64 (si + xi))).drew = w9 at HT2 ⊢
          have c2 := own_cell HT2.out.two.o1 z (by rw [atL_len]; exact hzi)
          have f1 := own_fz HT2.out.two.o1 z
          rw [atL_get O hzi, HAI.out] at c2
          have HT3 : Hid (Four w (w9.setCell ⟨G1, z, none⟩ (.int .i64 ((ai : Int) + 1))) G1 G2 B i (atL i (O ++ [(z : Int)])) (sumL ls i (O ++ [(z : Int)])) (.slice po j co) e O R) := Lib.hid (by
            have h := HT2.out.set1 z ((ai : Int) + 1) (wf_in (by omega))
            rwa [HASET.out] at h)
          have HT4 := Lib.hid (HT3.out.alloc (.cells #[.int .i64 (z : Int)] 3))
          have hsz3 : (w9.setCell ⟨G1, z, none⟩ (.int .i64 ((ai : Int) + 1))).heap.size = w9.heap.size := by simp [World.setCell]
          go_wp2_with (first
            | (at_builtin
               refine wp_app rfl (.tmp 101) (.tmp 103) rfl B (.slice po j co) O (some ⟨w9.heap.size, 0, none⟩) 1 1 [(z : Int)] rfl HT4.out.p1 rfl rfl (by have := Ints.one (w9.setCell ⟨G1, z, none⟩ (.int .i64 ((ai : Int) + 1))) (z : Int) (wf_in (by omega)); rw [hsz3] at this; exact this) (by simp; omega) HT4.out.siz ?_
               intro o2 wa ho2 hg2 hat2
               have HT5 := Lib.hid (HT4.out.app1 ho2 hg2 hat2)
               have c5 := own_cell HT5.out.two.o2 z (by rw [sumL_len]; exact hzi)
               rw [sumL_get ls _ hzi, HSV.out] at c5
               have HT6 := Lib.hid (HT5.out.alloc (.cells #[.int .i64 (si + xi)] 3))
               clear ho2 hg2 hat2)
            | (at_builtin
               refine wp_app rfl (.tmp 105) (.tmp 110) rfl B e R (some ⟨wa.heap.size, 0, none⟩) 1 1 [si + xi] rfl HT6.out.p2 rfl rfl (Ints.one wa (si + xi) (wf_in (by omega))) (by simp; omega) HT6.out.siz ?_
               intro e2 wb he2 hg3 hat3
               have HT7 := Lib.hid (HT6.out.app2 he2 hg3 hat3)
               clear he2 hg3 hat3))
          obtain ⟨g', hg'⟩ : ∃ g', gk = g' + 1 := ⟨gk - 1, by omega⟩
          go_roundg g'
          case measure => omega
          case rel => exact ⟨j + 1, o2, e2, by omega, rfl, rfl, Lib.hid (by rw [HNS.out, HRS.out]; exact HT7.out)⟩
    · obtain rfl : j = k := by omega
      have u1 : decide ((j : Int) < (j : Int)) = false := decide_eq_false (by omega)
      obtain ⟨pe, ce, he, hie⟩ := HF.out.p2.form
      obtain ⟨po', co', ho', hio⟩ := HF.out.p1.form
      have hj1 : (nums m).take j = nums m := by rw [← HK.out, List.take_of_length_le]; unfold nums; rw [List.length_map]; exact Nat.le_refl _
      have hj2 : (rnds m).take j = rnds m := by rw [← HK.out, List.take_of_length_le]; rw [rnds_len]; exact Nat.le_refl _
      rw [hj1] at ho' hio
      rw [hj2] at he hie
      rw [rnds_len, HK.out] at he
      injection ho' with e1 e2 e3
      subst e1 e3 he
      have I1 := Lib.hid hio
      have I2 := Lib.hid hie
      clear hio hie hj1 hj2 e2
      go_wp2_with fail
      refine T.out.mono ?_; rintro e7 w7 ⟨rfl, hw7⟩
      have hw7 := hw7.symm
      subst hw7
      go_wp2_with fail
      go_ret2
      exact ⟨_, _, _, _, rfl, I1.out, I2.out, HB.out⟩
end Go.Proofs.YtmjkjkiogkmmpaaDoor.Rounds
