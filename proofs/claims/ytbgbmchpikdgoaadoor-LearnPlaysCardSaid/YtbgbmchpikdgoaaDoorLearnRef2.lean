/- Package learn, the document's answer: Heard and Down. No statement is proved here. -/
import Derived.Test.YtbgbmchpikdgoaaDoorLearnRefSt
import Derived.Test.YtbgbmchpikdgoaaDoorLearnMore
import Derived.Deep.RegionLaw
import Derived.BigQuiet
namespace Go.Proofs.YtbgbmchpikdgoaaDoor.Learn
open Go.ChangeShapes Go.WideShapes Go.ChangeAt Go.RowKit Go.Proofs.YtbgbmchpikdgoaaDoor.Kit Go.Proofs.YtbgbmchpikdgoaaDoor.App Go.Proofs.YtbgbmchpikdgoaaDoor.Err
set_option linter.unusedVariables false
set_option maxRecDepth 20000
set_option maxHeartbeats 2000000

theorem own_block {w : World} {base n c : Nat} {p : Option Addr} {l : List Int} (h : OwnI w base (.slice p n c) l) (hn : 0 < n) : ∃ g, p = some ⟨g, 0, none⟩ ∧ n = l.length ∧ n ≤ c ∧ c ≤ 9223372036854775807 := by
  obtain ⟨⟨hl, ⟨e1, h1⟩ | ⟨g, cap, cur, e1, hb, hh, hnc, hcm, _⟩⟩, hw⟩ := h
  · injection e1 with _ e2 _
    omega
  · injection e1 with e1 e2 e3
    unfold maxLen at hcm
    exact ⟨g, e1, e2, by omega, by omega⟩
theorem gfrom {w w' : World} {r : Option Nat} (h : w.drew.grownBy w' r) : w.grownBy w' r := ⟨h.os, h.tape, h.output, h.size, h.block⟩
theorem gtrans_i {a b c : World} {g : Option Nat} (h : a.grownBy b g) (h2 : b.grownBy c g) : a.grownBy c g :=
  ⟨h2.os.trans h.os, h2.tape.trans h.tape, h2.output.trans h.output, Nat.le_trans h.size h2.size, fun k hk hne => (h2.block k (Nat.lt_of_lt_of_le hk h.size) hne).trans (h.block k hk hne)⟩
/-- What the document's switch is: two lists, in blocks from B on. -/
structure Two (B : Nat) (w : World) (pa pp : Option Addr) (ca cp : Nat) (l : List E) : Prop where
  a : Ints w pa ca (l.map Prod.fst)
  p : Ints w pp cp (l.map Prod.snd)
  la : ∀ x, pa = some x → B ≤ x.block ∧ x.block < w.heap.size
  lp : ∀ x, pp = some x → B ≤ x.block ∧ x.block < w.heap.size
theorem size_set (w : World) (g k : Nat) (v : Value) : (w.setCell ⟨g, k, none⟩ v).heap.size = w.heap.size := by simp [World.setCell]
theorem Two.set {B : Nat} {w : World} {pa pp : Option Addr} {ca cp : Nat} {l : List E} (h : Two B w pa pp ca cp l) (g k : Nat) (v : Value) (ha : ∀ x, pa = some x → x.block ≠ g) (hp : ∀ x, pp = some x → x.block ≠ g) : Two B (w.setCell ⟨g, k, none⟩ v) pa pp ca cp l :=
  ⟨ints_set h.a g k v ha, ints_set h.p g k v hp, fun x e => by rw [size_set]; exact h.la x e, fun x e => by rw [size_set]; exact h.lp x e⟩
theorem Pr.two {B W : Nat} {w3 w : World} {pe pq : Option Addr} {n m ce cq : Nat} {la lp : List Int} {L : List E} (H : Pr (fun k => k ≤ B + 1) w3 w (B + 2) (.slice pe n ce) (.slice pq m cq) la lp) (ha : la = L.map Prod.fst) (hp : lp = L.map Prod.snd) (hW : W ≤ B) :
    Two W w pe pq ce cq L ∧ (∀ x, pe = some x → x.block ≠ B + 2 ∧ x.block ≠ B + 1) ∧ (∀ x, pq = some x → x.block ≠ B + 2 ∧ x.block ≠ B + 1) := by
  subst ha; subst hp
  obtain ⟨p1, c1, e1, h1, b1⟩ := own_read H.oa
  obtain ⟨p2, c2, e2, h2, b2⟩ := own_read H.op
  injection e1 with e1 _ e3
  injection e2 with e2 _ e4
  subst e1; subst e2; subst e3; subst e4
  have k1 : ∀ x, pe = some x → B + 1 < x.block ∧ x.block ≠ B + 2 := fun x e => by
    have h := H.na _ (b1 x e).2.2
    exact ⟨by have := h.2; omega, h.1⟩
  have k2 : ∀ x, pq = some x → B + 1 < x.block ∧ x.block ≠ B + 2 := fun x e => by
    have h := H.np _ (b2 x e).2.2
    exact ⟨by have := h.2; omega, h.1⟩
  exact ⟨⟨h1, h2, fun x e => ⟨by have := k1 x e; omega, (b1 x e).2.1⟩, fun x e => ⟨by have := k2 x e; omega, (b2 x e).2.1⟩⟩, fun x e => ⟨(k1 x e).2, by have := k1 x e; omega⟩, fun x e => ⟨(k2 x e).2, by have := k2 x e; omega⟩⟩
theorem Two.cut {B : Nat} {w : World} {ga gq ca cp : Nat} {L : List E} (h : Two B w (some ⟨ga, 0, none⟩) (some ⟨gq, 0, none⟩) ca cp L) (h0 : 0 < L.length) : Two B w (some ⟨ga, 1, none⟩) (some ⟨gq, 1, none⟩) (ca - 1) (cp - 1) (L.drop 1) := by
  have h1 := ints_tail h.a 1 (ca - 1) (by rw [List.length_map]; exact h0) (by have := h.a.1; omega) (by have := h.a.2.1; omega)
  have h2 := ints_tail h.p 1 (cp - 1) (by rw [List.length_map]; exact h0) (by have := h.p.1; omega) (by have := h.p.2.1; omega)
  rw [← List.map_drop] at h1 h2
  refine ⟨h1, h2, fun x e => ?_, fun x e => ?_⟩
  · injection e with e; subst e; exact h.la ⟨ga, 0, none⟩ rfl
  · injection e with e; subst e; exact h.lp ⟨gq, 0, none⟩ rfl
theorem rdown_any (pa pp : Option Addr) (n m ca cp : Nat) (l : List E) (y : Int) (w : World) (hn : n = l.length) (hm : m = l.length) (hi : Ints w pa ca (l.map Prod.fst)) (hj : Ints w pp cp (l.map Prod.snd)) (hok : Ok l) :
    Calls Tryd.prog 16 #[.agg #[.slice pa n ca, .slice pp m cp], .int .i64 y] w fun e w' => ∃ pa' pp' ca' cp', e = .returned (.agg #[.slice pa' (down l y).length ca', .slice pp' (down l y).length cp']) ∧ Two w.heap.size w' pa' pp' ca' cp' (down l y) ∧ Below w.heap.size w w' := by
  have HL8 := Lib.hid (show l.length ≤ 9 by have := hok.len; omega)
  clear hok
  have hlen := hi.len_le
  rw [List.length_map, ← hn] at hlen
  obtain ⟨B, hB⟩ : ∃ B, w.heap.size = B := ⟨_, rfl⟩
  obtain ⟨w3, h3⟩ : ∃ w3, ((w.alloc (.cells #[.slice pa n ca, .slice pp m cp] 39)).alloc (.cells #[.slice none 0 0, .slice none 0 0] 39)).alloc (.cells #[.slice none 0 0, .slice none 0 0] 39) = w3 := ⟨_, rfl⟩
  have hx1 : Blk 39 w3 B [.slice pa n ca, .slice pp m cp] := by
    rw [← h3, ← hB]
    exact ((Blk.new w 39 _).alloc _).alloc _
  have hx2 : Blk 39 w3 (B + 1) [.slice none 0 0, .slice none 0 0] := by
    rw [← h3, ← hB]
    have := (Blk.new (w.alloc (.cells #[.slice pa n ca, .slice pp m cp] 39)) 39 [.slice none 0 0, .slice none 0 0]).alloc (.cells #[.slice none 0 0, .slice none 0 0] 39)
    rw [show (w.alloc (.cells #[.slice pa n ca, .slice pp m cp] 39)).heap.size = w.heap.size + 1 by simp] at this
    exact this
  have hx3 : Blk 39 w3 (B + 2) [.slice none 0 0, .slice none 0 0] := by
    rw [← h3, ← hB]
    have := Blk.new ((w.alloc (.cells #[.slice pa n ca, .slice pp m cp] 39)).alloc (.cells #[.slice none 0 0, .slice none 0 0] 39)) 39 [.slice none 0 0, .slice none 0 0]
    rw [show ((w.alloc (.cells #[.slice pa n ca, .slice pp m cp] 39)).alloc (.cells #[.slice none 0 0, .slice none 0 0] 39)).heap.size = w.heap.size + 2 by simp] at this
    exact this
  have hb3 : Below w.heap.size w w3 := by rw [← h3]; exact balloc (balloc (balloc (brefl w) _) _) _
  have hx3l := hx3.lt
  have HP0 := Lib.hid (show Pr (fun k => k ≤ B + 1) w3 w3 (B + 2) (.slice none 0 0) (.slice none 0 0) [] [] from
    ⟨hx3, OwnI.nil _ _, OwnI.nil _ _, Apt.nil _, fun k hk => by simp [Value.ownBlock] at hk, fun k hk => by simp [Value.ownBlock] at hk, by omega, fun k hk => by omega, Keep.refl _ _⟩)
  have HBX := Lib.hid hx1
  have HBR := Lib.hid hx2
  have HB3 := Lib.hid hb3
  have HBB := Lib.hid hB
  have HI := Lib.hid (fun W (hW : Below w.heap.size w W) => hi.below hW)
  have HJ := Lib.hid (fun W (hW : Below w.heap.size w W) => hj.below hW)
  have HN := Lib.hid hn
  have HM := Lib.hid hm
  have H3 := Lib.hid h3
  clear hi hj hn hm hx1 hx2 hx3 hb3 hx3l hB h3
  go_enter Tryd.func16, Tryd.ntmps16
  go_wp2_with fail
  rw [H3.out, HBB.out]
  go_loopw [6] (fun iv wr => ∃ (k : Nat) (va vp : Value), k ≤ n ∧ iv = .int .i64 (k : Int) ∧ Hid (Pr (fun k => k ≤ B + 1) w3 wr (B + 2) va vp ((down (l.take k) y).map Prod.fst) ((down (l.take k) y).map Prod.snd))) (fun i _ => n - (intOf i).toNat)
  case atStart => exact ⟨0, _, _, Nat.zero_le _, rfl, HP0⟩
  case round =>
    obtain ⟨k, va, vp, hk, rfl, HH⟩ := hrel
    clear HP0
    have HWR := Lib.hid (HB3.out.trans (HH.out.kp.below (fun k hk => by have := HBB.out; omega)))
    have d0 := (HH.out.zblk HBX.out (by omega)).cell 0 _ rfl
    have d1 := (HH.out.zblk HBX.out (by omega)).cell 1 _ rfl
    by_cases hlt : k < n
    · have u1 : decide ((k : Int) < (n : Int)) = true := decide_eq_true (by omega)
      have hkl : k < l.length := by rw [← HN.out]; exact hlt
      have hkm : (k : Int) < (m : Int) := by have := HM.out; omega
      obtain ⟨x, hx⟩ : ∃ x, l[k]? = some x := ⟨_, List.getElem?_eq_getElem hkl⟩
      have hIw := HI.out wr HWR.out
      have hJw := HJ.out wr HWR.out
      have hw1 := hIw.2.2.1 k
      have hw2 := hJw.2.2.1 k
      obtain ⟨b0, off, e0, hb0, hc⟩ := hIw.2.2.2 (by rw [List.length_map]; omega)
      obtain ⟨b1, of1, e1, hb1, hcc⟩ := hJw.2.2.2 (by rw [List.length_map]; omega)
      have hc1 := hc k (by rw [List.length_map]; exact hkl)
      have hc2 := hcc k (by rw [List.length_map]; exact hkl)
      rw [fst_at hx] at hc1 hw1
      rw [snd_at hx] at hc2 hw2
      have HT := Lib.hid (take_at hx)
      have hfl : (down (l.take k) y).length ≤ k := Nat.le_trans (List.length_filter_le _ _) (by rw [List.length_take]; omega)
      have hlL := HL8.out
      have hk9 : k ≤ 9 := by have := HN.out; omega
      obtain ⟨x1, x2⟩ := x
      simp only at hc1 hc2 hw1 hw2
      have WX1 := Lib.hid hw1
      have WX2 := Lib.hid hw2
      have HZ := Lib.hid (And.intro e0 e1)
      subst e0; subst e1
      clear hc hcc hkl hx hIw hJw hw1 hw2 hb0 hb1 hlL HZ
      by_cases hxy : x2 = y
      · have u2 : (x2 != y) = false := by rw [bne_eq_false_iff_eq]; exact hxy
        have HE := Lib.hid (down_yes (l.take k) (x := (x1, x2)) hxy)
        clear hxy hfl
        go_wp2_with fail
        go_roundw
        case rel => exact ⟨k + 1, va, vp, by omega, by first | rfl | go_num, by rw [HT.out, HE.out]; exact HH⟩
        case measure => simp [intOf]; omega
      · have u2 : (x2 != y) = true := by rw [bne_iff_ne]; exact hxy
        have HE := Lib.hid (down_not (l.take k) (x := (x1, x2)) hxy)
        obtain ⟨la, hla⟩ : ∃ la, (down (l.take k) y).map Prod.fst = la := ⟨_, rfl⟩
        obtain ⟨lp, hlp⟩ : ∃ lp, (down (l.take k) y).map Prod.snd = lp := ⟨_, rfl⟩
        have hna : la.length = (down (l.take k) y).length := by rw [← hla, List.length_map]
        have hnp : lp.length = (down (l.take k) y).length := by rw [← hlp, List.length_map]
        have HE1 := Lib.hid (show (down (l.take (k + 1)) y).map Prod.fst = la ++ [x1] by rw [HT.out, HE.out, List.map_append, hla]; rfl)
        have HE2 := Lib.hid (show (down (l.take (k + 1)) y).map Prod.snd = lp ++ [x2] by rw [HT.out, HE.out, List.map_append, hlp]; rfl)
        rw [hla, hlp] at HH
        generalize (down (l.take k) y).length = N at hna hnp hfl
        have hN9 : N ≤ 9 := by omega
        obtain ⟨pf, cf, ef, _⟩ := HH.out.oa.form
        obtain ⟨pg, cg0, eg, _⟩ := HH.out.op.form
        rw [hna] at ef
        rw [hnp] at eg
        subst ef; subst eg
        have LN1 := Lib.hid hna
        have LN2 := Lib.hid hnp
        have LB1 := Lib.hid (show la.length ≤ 9 by omega)
        have LB2 := Lib.hid (show lp.length ≤ 9 by omega)
        clear hxy hfl hla hlp hna hnp hN9 HE
        go_wp2_with fail
        have HCO := Lib.hid (HH.out.oa.drew.alloc (.cells #[.int .i64 x1] 3))
        have HCI := Lib.hid (Ints.one wr.drew x1 WX1.out)
        have HCB := Lib.hid (HH.out.blk.drew.alloc (.cells #[.int .i64 x1] 3))
        have HCN := Lib.hid (fun e : some (B + 2) = (Value.slice pf N cf).ownBlock => (HH.out.na _ e.symm).1 rfl)
        have HCG := Lib.hid (show wr.grownBy (wr.drew.alloc (.cells #[.int .i64 x1] 3)) (Value.slice pf N cf).ownBlock from gfrom (World.grownBy_alloc wr.drew (.cells #[.int .i64 x1] 3) (Value.slice pf N cf).ownBlock))
        have cg := HH.out.blk.cell 0 _ rfl
        have cg2 : (wr.alloc (.cells #[.int .i64 x1] 3)).cell? ⟨B + 2, 0, none⟩ = some (Value.slice pf N cf) := HCB.out.cell 0 _ rfl
        go_region_law (refine step_app_i rfl (.tmp 22) (.tmp 28) rfl 0 (Value.slice pf N cf) la (some ⟨wr.drew.heap.size, 0, none⟩) 1 1 [x1] rfl HCO.out rfl rfl HCI.out (by simp; have := LB1.out; omega) (Nat.zero_le _) ?_
                       intro v4 w4 hown4 hg4 hat4
                       have hb4 := HCB.out.more hg4 HCN.out
                       have hc4 := hb4.cell 0 _ rfl
                       have hf4 := hb4.fz 0
                       obtain ⟨pq, cq, e4, hI4⟩ := hown4.form
                       have hl4 : (la ++ [x1]).length = N + 1 := by rw [List.length_append]; simp; exact LN1.out
                       rw [hl4] at e4
                       subst e4
                       have HOW4 := Lib.hid hown4
                       have HG4 := Lib.hid hg4
                       have HAT4 := Lib.hid hat4
                       clear hown4 hg4 hat4 hb4 hI4 hl4)
        all_goals
          have HGW := Lib.hid (gtrans_i HCG.out HG4.out)
          have HH5 := Lib.hid (HH.out.app1 HGW.out HOW4.out (fun k hk => by
            rcases HAT4.out with h | h
            · exact .inl (by rw [← h]; exact hk)
            · rw [h] at hk
              injection hk with hk
              exact .inr (by rw [← hk]; simp)))
          generalize w4.setCell ⟨B + 2, 0, none⟩ (.slice pq (N + 1) cq) = w5 at HH5 ⊢
          clear cg cg2 hc4 hf4 HCO HCI HCB HCN HCG HG4 HAT4 HOW4 HGW HH
          have HWR5 := Lib.hid (HB3.out.trans (HH5.out.kp.below (fun k hk => by have := HBB.out; omega)))
          have d0 := (HH5.out.zblk HBX.out (by omega)).cell 0 _ rfl
          have d1 := (HH5.out.zblk HBX.out (by omega)).cell 1 _ rfl
          have hc2 : w5.cell? ⟨b1, of1 + k, none⟩ = some (.int .i64 x2) := by
            have h := HJ.out w5 HWR5.out
            have h2 := HJ.out wr HWR.out
            obtain ⟨b1', of1', e1', _, hcc⟩ := h.2.2.2 (by rw [List.length_map]; have := HN.out; omega)
            obtain ⟨b2', of2', e2', _, hcc2⟩ := h2.2.2.2 (by rw [List.length_map]; have := HN.out; omega)
            injection e1' with e1'
            injection e1' with ea eb
            injection e2' with e2'
            injection e2' with ec ed
            subst ea; subst eb; subst ec; subst ed
            have q1 := hcc k (by rw [List.length_map]; have := HN.out; omega)
            have q2 := hcc2 k (by rw [List.length_map]; have := HN.out; omega)
            rw [hc2] at q2
            rw [q1, ← q2]
          clear HWR
          go_wp2_with fail
          have HCO := Lib.hid (HH5.out.op.drew.alloc (.cells #[.int .i64 x2] 3))
          have HCI := Lib.hid (Ints.one w5.drew x2 WX2.out)
          have HCB := Lib.hid (HH5.out.blk.drew.alloc (.cells #[.int .i64 x2] 3))
          have HCN := Lib.hid (fun e : some (B + 2) = (Value.slice pg N cg0).ownBlock => (HH5.out.np _ e.symm).1 rfl)
          have HCG := Lib.hid (show w5.grownBy (w5.drew.alloc (.cells #[.int .i64 x2] 3)) (Value.slice pg N cg0).ownBlock from gfrom (World.grownBy_alloc w5.drew (.cells #[.int .i64 x2] 3) (Value.slice pg N cg0).ownBlock))
          have cg := HH5.out.blk.cell 1 _ rfl
          have cg2 : (w5.alloc (.cells #[.int .i64 x2] 3)).cell? ⟨B + 2, 1, none⟩ = some (Value.slice pg N cg0) := HCB.out.cell 1 _ rfl
          go_region_law (refine step_app_i rfl (.tmp 32) (.tmp 38) rfl 0 (Value.slice pg N cg0) lp (some ⟨w5.drew.heap.size, 0, none⟩) 1 1 [x2] rfl HCO.out rfl rfl HCI.out (by simp; have := LB2.out; omega) (Nat.zero_le _) ?_
                         intro v4 w6 hown4 hg4 hat4
                         have hb4 := HCB.out.more hg4 HCN.out
                         have hc4 := hb4.cell 1 _ rfl
                         have hf4 := hb4.fz 1
                         obtain ⟨pr, cr, e4, hI4⟩ := hown4.form
                         have hl4 : (lp ++ [x2]).length = N + 1 := by rw [List.length_append]; simp; exact LN2.out
                         rw [hl4] at e4
                         subst e4
                         have HOW4 := Lib.hid hown4
                         have HG4 := Lib.hid hg4
                         have HAT4 := Lib.hid hat4
                         clear hown4 hg4 hat4 hb4 hI4 hl4)
          all_goals
            have HGW := Lib.hid (gtrans_i HCG.out HG4.out)
            have HH7 := Lib.hid (HH5.out.app2 HGW.out HOW4.out (fun k hk => by
              rcases HAT4.out with h | h
              · exact .inl (by rw [← h]; exact hk)
              · rw [h] at hk
                injection hk with hk
                exact .inr (by rw [← hk]; simp)))
            generalize w6.setCell ⟨B + 2, 1, none⟩ (.slice pr (N + 1) cr) = w7 at HH7 ⊢
            clear cg cg2 hc4 hf4 HCO HCI HCB HCN HCG HG4 HAT4 HOW4 HGW HH5
            go_wp2_with fail
            go_roundw
            case rel => exact ⟨k + 1, _, _, by omega, by first | rfl | go_num, by rw [HE1.out, HE2.out]; exact HH7⟩
            case measure => simp [intOf]; omega
    · obtain rfl : k = n := by omega
      have u1 : decide ((k : Int) < (k : Int)) = false := decide_eq_false (by omega)
      rw [List.take_of_length_le (by rw [HN.out]; exact Nat.le_refl _)] at HH
      obtain ⟨pe, ce, ee, hie, hae⟩ := own_read HH.out.oa
      obtain ⟨pq, cq, eq, hiq, haq⟩ := own_read HH.out.op
      rw [List.length_map] at ee eq
      obtain ⟨M, hM⟩ : ∃ M, (down l y).length = M := ⟨_, rfl⟩
      rw [hM] at ee eq
      have hna := HH.out.na
      have hnp := HH.out.np
      have HNA := Lib.hid (show ∀ x, pe = some x → B + 2 ≤ x.block ∧ x.block ≠ B + 2 ∧ x.block < wr.heap.size from fun x e => by
        have h1 := hae x e
        have h2 := hna _ h1.2.2
        exact ⟨by have := h2.2; omega, h2.1, h1.2.1⟩)
      have HNP := Lib.hid (show ∀ x, pq = some x → B + 2 ≤ x.block ∧ x.block ≠ B + 2 ∧ x.block < wr.heap.size from fun x e => by
        have h1 := haq x e
        have h2 := hnp _ h1.2.2
        exact ⟨by have := h2.2; omega, h2.1, h1.2.1⟩)
      have HTW := Lib.hid (show Two w.heap.size wr pe pq ce cq (down l y) from ⟨hie, hiq, fun x e => ⟨by have := (HNA.out x e).1; have := HBB.out; omega, (HNA.out x e).2.2⟩, fun x e => ⟨by have := (HNP.out x e).1; have := HBB.out; omega, (HNP.out x e).2.2⟩⟩)
      subst ee; subst eq
      have g0 := HH.out.blk.cell 0 _ rfl
      have g1 := HH.out.blk.cell 1 _ rfl
      have HR := Lib.hid (HH.out.zblk HBR.out (by omega))
      have r0 := HR.out.cell 0 _ rfl
      have r1 := HR.out.cell 1 _ rfl
      have q0 := HR.out.fz 0
      have q1 := HR.out.fz 1
      have HML := Lib.hid hM
      clear hna hnp hie hiq hae haq hM HH
      go_wp2_with fail
      refine bodyPost_ret (results_two rfl Tryd.isAgg39 Tryd.sizeOf39 _ _ _ rfl rfl rfl _ _ (((HR.out.set 0 (.slice pe M ce)).set 1 (.slice pq M cq)).cell 0 _ rfl) (((HR.out.set 0 (.slice pe M ce)).set 1 (.slice pq M cq)).cell 1 _ rfl)) rfl ?_
      exact ⟨pe, pq, ce, cq, by rw [HML.out], (HTW.out.set (B + 1) 0 _ (fun x e => by have := HNA.out x e; omega) (fun x e => by have := HNP.out x e; omega)).set (B + 1) 1 _ (fun x e => by have := HNA.out x e; omega) (fun x e => by have := HNP.out x e; omega), below_set (below_set HWR.out (B + 1) 0 _ (by have := HBB.out; omega)) (B + 1) 1 _ (by have := HBB.out; omega)⟩
end Go.Proofs.YtbgbmchpikdgoaaDoor.Learn
