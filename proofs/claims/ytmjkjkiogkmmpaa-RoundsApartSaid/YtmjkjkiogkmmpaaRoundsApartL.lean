/- RoundsApart: additional packets of one queue delay others by at most their size: for every input. No condition. -/
import Derived.Test.YtmjkjkiogkmmpaaRoundsFact
import Derived.BigQuiet
import Derived.Test.YtmjkjkiogkmmpaaRoundsApartMath
import Derived.Test.YtmjkjkiogkmmpaaHeads
import Derived.Test.YtmjkjkiogkmmpaaBehind
import Derived.Test.YtmjkjkiogkmmpaaDrrCount
import Derived.Test.YtmjkjkiogkmmpaaIn3
namespace Go.Proofs.Ytmjkjkiogkmmpaa.RoundsApartL
open Go.ChangeShapes Go.WideShapes Go.ChangeAt Go.RowKit Go.Proofs.Ytmjkjkiogkmmpaa.Kit Go.Proofs.Ytmjkjkiogkmmpaa.App Go.Proofs.Ytmjkjkiogkmmpaa.Err Go.Proofs.Ytmjkjkiogkmmpaa.Cells Go.Proofs.Ytmjkjkiogkmmpaa.Heads Go.Proofs.Ytmjkjkiogkmmpaa.Drr Go.Proofs.Ytmjkjkiogkmmpaa.Rounds
set_option linter.unusedVariables false
set_option maxRecDepth 20000
set_option maxHeartbeats 2000000
abbrev Law (p : Option Addr) (n cap : Nat) (a more : Int) (w : World) : Prop := Calls Try.prog 4 #[.slice p n cap, .int .i64 a, .int .i64 more] w fun e w' => e = .returned (.bool true) ∧ Below w.heap.size w w'
theorem ints_take {w : World} {p : Option Addr} {cap : Nat} {l : List Int} (h : Ints w p cap l) (i : Nat) (hi : i ≤ l.length) : Ints w p cap (l.take i) := by
  by_cases h0 : 0 < l.length
  · obtain ⟨b, off, rfl⟩ := some_ints h h0
    exact ints_cut h i hi cap (Nat.le_trans hi h.1) h.2.1
  · have : l = [] := List.eq_nil_of_length_eq_zero (by omega)
    subst this
    rw [List.take_nil]; exact h
theorem nums_len (m : List Pk) : (nums m).length = m.length := by simp [nums]
theorem nums_get {m : List Pk} {j : Nat} {p : Pk} (h : m[j]? = some p) : (nums m)[j]?.getD 0 = p.num := by
  unfold nums
  rw [List.getElem?_map, h]; rfl
theorem law_bad (p : Option Addr) (n cap : Nat) (ls : List (List Int)) (a more : Int) (w : World) (hn : n = ls.length) (hi : RowsI w p cap ls) (c : Int) (hc : code ls = c) (h0 : c ≠ 0) : Law p n cap a more w := by
  have RU := Lib.hid (fun W (hW : Below w.heap.size w W) => run_any p cap n ls W hn (hi.below hW) c hc [] (fun h => absurd h h0) (fun _ => rfl) 0 rfl)
  have RB := Lib.hid (fun W (hW : Below w.heap.size w W) => bits_any p cap n ls W hn (hi.below hW) c hc [] (fun h => absurd h h0) (fun _ => rfl) 0 rfl)
  rw [er_ne h0] at RU RB
  clear hn hi hc h0
  have FA := Lib.hid (fact_any w)
  unfold Law
  go_enter Try.func4, Try.ntmps4
  go_wp2_with fail
  refine FA.out.mono ?_; rintro e w1 ⟨rfl, hb1⟩
  clear FA
  go_wp2_with fail
  refine (RU.out w1 hb1).mono ?_; rintro e w2 ⟨⟨r, cr, r2, cr2, rfl, hI, hI2⟩, hb2⟩
  have HB2 := Lib.hid (bcall hb1 hb2)
  have HI1 := Lib.hid hI
  have HI2 := Lib.hid hI2
  clear RU hb1 hb2 hI hI2
  go_wp2_with fail
  refine (RB.out w2 HB2.out).mono ?_; rintro e w3 ⟨⟨r3, cr3, rfl, hI3⟩, hb3⟩
  have HB3 := Lib.hid (bcall HB2.out hb3)
  have HO := Lib.hid (HI1.out.below hb3)
  have HE := Lib.hid (HI2.out.below hb3)
  have HBI := Lib.hid hI3
  clear RB hb3 hI3 HI1 HI2 HB2
  go_wp2_with fail
  go_ret
  exact ⟨by first | rfl | simp, HB3.out⟩
theorem law_out (p : Option Addr) (n cap : Nat) (ls : List (List Int)) (a more : Int) (w : World) (hn : n = ls.length) (hi : RowsI w p cap ls) (hz : code ls = 0) (hab : ¬ ((0 ≤ a ∧ a ≤ (n : Int) - 1) ∧ (1 ≤ more ∧ more ≤ 20))) : Law p n cap a more w := by
  have hg := code_zero.1 hz
  obtain ⟨m, hm⟩ := Srt.some hg
  obtain ⟨k, hk⟩ : ∃ k, m.length = k := ⟨_, rfl⟩
  have RU := Lib.hid (fun W (hW : Below w.heap.size w W) => run_any p cap n ls W hn (hi.below hW) 0 hz m (fun _ => hm) (fun h => absurd rfl h) k hk)
  have RB := Lib.hid (fun W (hW : Below w.heap.size w W) => bits_any p cap n ls W hn (hi.below hW) 0 hz m (fun _ => hm) (fun h => absurd rfl h) k hk)
  rw [er_0] at RU RB
  have hn5 : n ≤ 5 := by rw [hn]; exact hg.1
  obtain ⟨RA, hRA⟩ : ∃ R, R = (decide ((0 : Int) ≤ a) && decide (a ≤ (n : Int) - 1)) := ⟨_, rfl⟩
  obtain ⟨RB', hRB⟩ : ∃ R, R = (decide ((1 : Int) ≤ more) && decide (more ≤ 20)) := ⟨_, rfl⟩
  have hb : RA = true → RB' = false := fun h => by
    rw [h] at hRA
    symm at hRA
    rw [Bool.and_eq_true, decide_eq_true_iff, decide_eq_true_iff] at hRA
    rw [hRB]
    exact (in_false (fun h => hab ⟨hRA, h⟩)).symm
  have IA := Lib.hid (fun W => in_any a 0 ((n : Int) - 1) W RA hRA)
  have IB := Lib.hid (fun W => in_any more 1 20 W RB' hRB)
  clear hn hi hz hm hk hg hab hRA hRB
  cases RA with
  | true =>
    obtain rfl := hb rfl
    have FA := Lib.hid (fact_any w)
    unfold Law
    go_enter Try.func4, Try.ntmps4
    go_wp2_with fail
    refine FA.out.mono ?_; rintro e w1 ⟨rfl, hb1⟩
    clear FA
    go_wp2_with fail
    refine (RU.out w1 hb1).mono ?_; rintro e w2 ⟨⟨r, cr, r2, cr2, rfl, hI, hI2⟩, hb2⟩
    have HB2 := Lib.hid (bcall hb1 hb2)
    have HI1 := Lib.hid hI
    have HI2 := Lib.hid hI2
    clear RU hb1 hb2 hI hI2
    go_wp2_with fail
    refine (RB.out w2 HB2.out).mono ?_; rintro e w3 ⟨⟨r3, cr3, rfl, hI3⟩, hb3⟩
    have HB3 := Lib.hid (bcall HB2.out hb3)
    have HO := Lib.hid (HI1.out.below hb3)
    have HE := Lib.hid (HI2.out.below hb3)
    have HBI := Lib.hid hI3
    clear RB hb3 hI3 HI1 HI2 HB2
    go_wp2_with fail
    refine (IA.out _).mono ?_; rintro e w4 ⟨rfl, rfl⟩
    go_wp2_with fail
    refine (IB.out _).mono ?_; rintro e w5 ⟨rfl, rfl⟩
    go_wp2_with fail
    go_ret
    exact ⟨by first | rfl | simp, HB3.out⟩
  | false =>
    clear hb IB
    have FA := Lib.hid (fact_any w)
    unfold Law
    go_enter Try.func4, Try.ntmps4
    go_wp2_with fail
    refine FA.out.mono ?_; rintro e w1 ⟨rfl, hb1⟩
    clear FA
    go_wp2_with fail
    refine (RU.out w1 hb1).mono ?_; rintro e w2 ⟨⟨r, cr, r2, cr2, rfl, hI, hI2⟩, hb2⟩
    have HB2 := Lib.hid (bcall hb1 hb2)
    have HI1 := Lib.hid hI
    have HI2 := Lib.hid hI2
    clear RU hb1 hb2 hI hI2
    go_wp2_with fail
    refine (RB.out w2 HB2.out).mono ?_; rintro e w3 ⟨⟨r3, cr3, rfl, hI3⟩, hb3⟩
    have HB3 := Lib.hid (bcall HB2.out hb3)
    have HO := Lib.hid (HI1.out.below hb3)
    have HE := Lib.hid (HI2.out.below hb3)
    have HBI := Lib.hid hI3
    clear RB hb3 hI3 HI1 HI2 HB2
    go_wp2_with fail
    refine (IA.out _).mono ?_; rintro e w4 ⟨rfl, rfl⟩
    go_wp2_with fail
    go_ret
    exact ⟨by first | rfl | simp, HB3.out⟩
theorem law_full (p : Option Addr) (n cap : Nat) (ls : List (List Int)) (α : Nat) (x : Int) (w : World) (hn : n = ls.length) (hi : RowsI w p cap ls) (hz : code ls = 0) (hα : α < n) (hx : 1 ≤ x ∧ x ≤ 20) (d : Int) (hd : code (ls.set α (row ls α ++ [x])) = d) (hd0 : d ≠ 0) : Law p n cap (α : Int) x w := by
  have hg := code_zero.1 hz
  obtain ⟨m, hm⟩ := Srt.some hg
  obtain ⟨k, hk⟩ : ∃ k, m.length = k := ⟨_, rfl⟩
  have RU := Lib.hid (fun W (hW : Below w.heap.size w W) => run_any p cap n ls W hn (hi.below hW) 0 hz m (fun _ => hm) (fun h => absurd rfl h) k hk)
  have RB := Lib.hid (fun W (hW : Below w.heap.size w W) => bits_any p cap n ls W hn (hi.below hW) 0 hz m (fun _ => hm) (fun h => absurd rfl h) k hk)
  rw [er_0] at RU RB
  have hn5 : n ≤ 5 := by rw [hn]; exact hg.1
  have hαl : α < ls.length := by rw [← hn]; exact hα
  have IA := Lib.hid (fun W => in_any (α : Int) 0 ((n : Int) - 1) W true (in_true (by omega)))
  have IB := Lib.hid (fun W => in_any x 1 20 W true (in_true hx))
  obtain ⟨hs, hci, hrd⟩ := heads_of hi
  have hsn : hs.length = n := by rw [hrd.1, hn]
  obtain ⟨b, off, q, c1, hp, hir, hcell⟩ := row_at hi hαl
  subst hp
  obtain ⟨l, hl⟩ : ∃ l, row ls α = l := ⟨_, rfl⟩
  rw [hl] at hir hcell
  obtain ⟨z, hlz⟩ : ∃ z, l.length = z := ⟨_, rfl⟩
  rw [hlz] at hcell
  have hz8 : z ≤ 8 := by rw [← hlz, ← hl]; exact (hg.row α).1
  have HROW := Lib.hid hl
  have HLZ := Lib.hid hlz
  have HIR := Lib.hid hir
  have HCELL := Lib.hid hcell
  have HCI := Lib.hid hci
  have HRD := Lib.hid hrd
  have HSN := Lib.hid hsn
  have hwx : (Lit.int .i64 x).wf = true := wf_in (by omega)
  have BH := Lib.hid (fun W (hW : Below w.heap.size w W) => behind_own q c1 z l x W hlz.symm (hir.below hW) (by omega) hwx)
  have HN := Lib.hid hn
  have hz8e : z = 8 := by
    have h8 : ¬ z < 8 := fun h => hd0 (by rw [← hd]; exact code_zero.2 (good_more hg hαl hx (by rw [hl, hlz]; exact h)))
    omega
  obtain ⟨m2, hm2⟩ : ∃ m2 : List Pk, m2 = [] := ⟨_, rfl⟩
  have HCD := Lib.hid hd
  have H20 := Lib.hid (show d = 0 → Srt (ls.set α (row ls α ++ [x])) m2 from fun h => absurd h hd0)
  have H21 := Lib.hid (show d ≠ 0 → m2 = [] from fun _ => hm2)
  have HK2 := Lib.hid (show m2.length = 0 by rw [hm2]; rfl)
  have HER := Lib.hid (er_ne hd0)
  have t8 : ((z : Int) == 8) = true := by rw [hz8e]; rfl
  clear hz8e
  obtain ⟨x1, x2⟩ := hx
  clear hi hz hm hk hg hd hd0 hm2 hαl hci hrd hir hcell hl hlz hsn hn
  have FA := Lib.hid (fact_any w)
  unfold Law
  go_enter Try.func4, Try.ntmps4
  go_wp2_with fail
  refine FA.out.mono ?_; rintro e w1 ⟨rfl, hb1⟩
  clear FA
  go_wp2_with fail
  refine (RU.out w1 hb1).mono ?_; rintro e w2 ⟨⟨r, cr, r2, cr2, rfl, hI, hI2⟩, hb2⟩
  have HB2 := Lib.hid (bcall hb1 hb2)
  have HI1 := Lib.hid hI
  have HI2 := Lib.hid hI2
  clear RU hb1 hb2 hI hI2
  go_wp2_with fail
  refine (RB.out w2 HB2.out).mono ?_; rintro e w3 ⟨⟨r3, cr3, rfl, hI3⟩, hb3⟩
  have HB3 := Lib.hid (bcall HB2.out hb3)
  have HO := Lib.hid (HI1.out.below hb3)
  have HE := Lib.hid (HI2.out.below hb3)
  have HBI := Lib.hid hI3
  clear RB hb3 hI3 HI1 HI2 HB2
  go_wp2_with fail
  refine (IA.out _).mono ?_; rintro e w9 ⟨rfl, hw9⟩
  have hw9 := hw9.symm
  subst hw9
  go_wp2_with fail
  refine (IB.out _).mono ?_; rintro e w9 ⟨rfl, hw9⟩
  have hw9 := hw9.symm
  subst hw9
  clear IA IB
  go_wp2_with (first
    | (at_builtin
       refine wp_appC tyH rfl (.tmp 55) (.tmp 56) rfl w3.heap.size (.slice none 0 0) [] (some ⟨b, off, none⟩) cap n hs rfl (OC.nil _ _ _ _) rfl HSN.out.symm (HCI.out.below HB3.out) (by simp; have := HSN.out; omega) (Nat.le_refl _) ?_
       intro v w4 hown hg4 hat
       rw [List.nil_append] at hown
       have hb34 : Below w3.heap.size w3 w4 := below_appC (brefl w3) (OC.nil layH 24 w3 w3.heap.size) hg4 (Nat.le_refl _)
       have HB4 := Lib.hid (bcall HB3.out hb34)
       obtain ⟨g, cp, hv, hgb, hgl, hcl, hcm⟩ := heads_pos hown (by rw [HSN.out]; omega)
       rw [HSN.out] at hv hcl
       subst hv
       have hck := HCELL.out w4 HB4.out
       have HOW := Lib.hid hown
       have HB34 := Lib.hid hb34
       clear hown hg4 hat hb34))
  refine (BH.out w4 HB4.out).mono ?_; rintro e w5 ⟨g2, c2, rfl, hown2, hg2, hb5⟩
  have HB5 := Lib.hid (bcall HB4.out hb5)
  have HB35 := Lib.hid (bcall HB34.out hb5)
  have how5 := HOW.out.below hb5
  obtain ⟨x0, hx0⟩ : ∃ x0, hs[α]? = some x0 := ⟨_, List.getElem?_eq_getElem (by rw [HSN.out]; exact hα)⟩
  have hco := heads_cell how5 hx0
  have hfo := heads_fz how5 α
  have hset := heads_set how5 α ⟨some ⟨g2, 0, none⟩, z + 1, c2⟩
  simp only at hset
  have hgw : w.heap.size ≤ g := Nat.le_trans HB3.out.size hgb
  have HB6 := Lib.hid (below_set HB5.out g α (.slice (some ⟨g2, 0, none⟩) (z + 1) c2) hgw)
  have HB36 := Lib.hid (below_set HB35.out g α (.slice (some ⟨g2, 0, none⟩) (z + 1) c2) hgb)
  have HROWS := Lib.hid (show RowsI (w5.setCell ⟨g, α, none⟩ (.slice (some ⟨g2, 0, none⟩) (z + 1) c2)) (some ⟨g, 0, none⟩) cp (ls.set α (row ls α ++ [x])) by
    obtain ⟨p', cp', e, hci2⟩ := hset.form
    injection e with e1 e2 e3
    subst e1 e3
    refine rows_of hci2 ((HRD.out.below HB6.out).set α ⟨some ⟨g2, 0, none⟩, z + 1, c2⟩ (row ls α ++ [x]) (by rw [List.length_append, HROW.out, HLZ.out]; rfl) ?_)
    rw [HROW.out]
    obtain ⟨p3, c3, e, hi3⟩ := (hown2.more (set_grown w5 g α (.slice (some ⟨g2, 0, none⟩) (z + 1) c2)) (.inr (by intro e; injection e with e; simp at e; omega))).form
    injection e with e1 e2 e3
    subst e1 e3
    exact hi3)
  obtain ⟨x0q, x0n, x0c⟩ := x0
  simp only at hco
  clear BH hb5 hown2 hg2 how5 hset HOW HB4 HB34 HB5 HB35 HCI HRD HIR hgb hgl hx0
  go_wp2_with fail
  generalize w5.setCell ⟨g, α, none⟩ (.slice (some ⟨g2, 0, none⟩) (z + 1) c2) = w6 at HB6 HB36 HROWS ⊢
  clear hco hfo hck
  have HO6 := Lib.hid (HO.out.below HB36.out)
  have HBI6 := Lib.hid (HBI.out.below HB36.out)
  have RU2 := Lib.hid (fun W (hW : Below w6.heap.size w6 W) => run_any (some ⟨g, 0, none⟩) cp n _ W (by rw [List.length_set]; exact HN.out) (HROWS.out.below hW) d HCD.out m2 H20.out H21.out 0 HK2.out)
  have RB2 := Lib.hid (fun W (hW : Below w6.heap.size w6 W) => bits_any (some ⟨g, 0, none⟩) cp n _ W (by rw [List.length_set]; exact HN.out) (HROWS.out.below hW) d HCD.out m2 H20.out H21.out 0 HK2.out)
  rw [HER.out] at RU2 RB2
  refine (RU2.out w6 (brefl w6)).mono ?_; rintro e w7 ⟨⟨s4, cs4, s5, cs5, rfl, hI4, _⟩, hb7⟩
  have HB7 := Lib.hid (bcall HB6.out hb7)
  have HB67 := Lib.hid hb7
  have HI4 := Lib.hid hI4
  have HO7 := Lib.hid (HO6.out.below hb7)
  have HBI7 := Lib.hid (HBI6.out.below hb7)
  clear RU2 hI4 hb7 HO6 HBI6 HO HBI HB36
  go_wp2_with fail
  refine (RB2.out w7 HB67.out).mono ?_; rintro e w8 ⟨⟨s6, cs6, rfl, hI6⟩, hb8⟩
  have HB8 := Lib.hid (bcall HB7.out hb8)
  have HO2 := Lib.hid (HI4.out.below hb8)
  have HO1 := Lib.hid (HO7.out.below hb8)
  have HBI1 := Lib.hid (HBI7.out.below hb8)
  have HBI2 := Lib.hid hI6
  have hck := HCELL.out w8 HB8.out
  clear RB2 hI6 hb8 HO7 HBI7 HI4 HB7 HB67 HROWS HB6 HB3
  go_wp2_with fail
  go_ret
  exact ⟨by first | rfl | simp, HB8.out⟩
theorem law_good (p : Option Addr) (n cap : Nat) (ls : List (List Int)) (α : Nat) (x : Int) (w : World) (hn : n = ls.length) (hi : RowsI w p cap ls) (hz : code ls = 0) (hα : α < n) (hx : 1 ≤ x ∧ x ≤ 20) (hd : code (ls.set α (row ls α ++ [x])) = 0) : Law p n cap (α : Int) x w := by
  have hg := code_zero.1 hz
  obtain ⟨m, hm⟩ := Srt.some hg
  obtain ⟨k, hk⟩ : ∃ k, m.length = k := ⟨_, rfl⟩
  have RU := Lib.hid (fun W (hW : Below w.heap.size w W) => run_any p cap n ls W hn (hi.below hW) 0 hz m (fun _ => hm) (fun h => absurd rfl h) k hk)
  have RB := Lib.hid (fun W (hW : Below w.heap.size w W) => bits_any p cap n ls W hn (hi.below hW) 0 hz m (fun _ => hm) (fun h => absurd rfl h) k hk)
  rw [er_0] at RU RB
  have hn5 : n ≤ 5 := by rw [hn]; exact hg.1
  have hαl : α < ls.length := by rw [← hn]; exact hα
  have IA := Lib.hid (fun W => in_any (α : Int) 0 ((n : Int) - 1) W true (in_true (by omega)))
  have IB := Lib.hid (fun W => in_any x 1 20 W true (in_true hx))
  obtain ⟨hs, hci, hrd⟩ := heads_of hi
  have hsn : hs.length = n := by rw [hrd.1, hn]
  obtain ⟨b, off, q, c1, hp, hir, hcell⟩ := row_at hi hαl
  subst hp
  obtain ⟨l, hl⟩ : ∃ l, row ls α = l := ⟨_, rfl⟩
  rw [hl] at hir hcell
  obtain ⟨z, hlz⟩ : ∃ z, l.length = z := ⟨_, rfl⟩
  rw [hlz] at hcell
  have hz8 : z ≤ 8 := by rw [← hlz, ← hl]; exact (hg.row α).1
  have HROW := Lib.hid hl
  have HLZ := Lib.hid hlz
  have HIR := Lib.hid hir
  have HCELL := Lib.hid hcell
  have HCI := Lib.hid hci
  have HRD := Lib.hid hrd
  have HSN := Lib.hid hsn
  have hwx : (Lit.int .i64 x).wf = true := wf_in (by omega)
  have BH := Lib.hid (fun W (hW : Below w.heap.size w W) => behind_own q c1 z l x W hlz.symm (hir.below hW) (by omega) hwx)
  have HN := Lib.hid hn
  have hg2 := code_zero.1 hd
  obtain ⟨m2, hm2⟩ := Srt.some hg2
  obtain ⟨k2, hk2⟩ : ∃ k, m2.length = k := ⟨_, rfl⟩
  obtain ⟨d, hd0⟩ : ∃ d : Int, 0 = d := ⟨_, rfl⟩
  have HCD := Lib.hid (show code (ls.set α (row ls α ++ [x])) = d by rw [hd, hd0])
  have H20 := Lib.hid (show d = 0 → Srt (ls.set α (row ls α ++ [x])) m2 from fun _ => hm2)
  have H21 := Lib.hid (show d ≠ 0 → m2 = [] from fun h => absurd hd0.symm h)
  have HK2 := Lib.hid hk2
  have HER := Lib.hid (show er d = .nilIface by rw [← hd0]; rfl)
  have hkk : k2 = k + 1 := by
    have h1 := things_set ls α (row ls α ++ [x]) hαl
    rw [List.length_append, List.length_singleton, ← hm2.len, ← hm.len, hk2, hk] at h1
    omega
  have hk40 : k ≤ 40 := by rw [← hk, hm.len]; exact things_le hg
  have t1 : ((k : Int) != (k : Int)) = false := by simp
  have t2 : ((k2 : Int) != (k2 : Int)) = false := by simp
  have t3 : ((k2 : Int) != (k : Int) + 1) = false := by rw [hkk]; simp
  have hk41 : k2 ≤ 41 := by omega
  have HK := Lib.hid hk
  have HM := Lib.hid hm
  have HG := Lib.hid hg
  have HCNT2 := Lib.hid (fun (K : Nat) (h : K ≠ α) => show (nums m2).count (K : Int) = (row ls K).length by rw [hm2.count hg2, row_set hαl, if_neg h])
  have HNUM2 := Lib.hid hm2.num
  have HRND := Lib.hid (fun (i j k : Nat) (p q : Pk) (hp : m[i]? = some p) (hk : p.num = (k : Int)) (hka : k ≠ α) (hq : m2[j]? = some q) (hqk : q.num = (k : Int)) hc => rnd_more hg hαl hg2 hm hm2 hp hk hka hq hqk hc)
  have HBM := Lib.hid (fun r => bit_more (qs := ls) hαl (show 0 ≤ x by omega) r 5)
  have HBIN := Lib.hid (fun r (hr : 0 ≤ r) => bit_in hg hr 5)
  have HFEW := Lib.hid (hm.few hg)
  obtain ⟨x1, x2⟩ := hx
  clear hi hz hm hk hg hd hd0 hm2 hg2 hk2 hkk hαl hci hrd hir hcell hl hlz hsn hn
  have FA := Lib.hid (fact_any w)
  unfold Law
  go_enter Try.func4, Try.ntmps4
  go_wp2_with fail
  refine FA.out.mono ?_; rintro e w1 ⟨rfl, hb1⟩
  clear FA
  go_wp2_with fail
  refine (RU.out w1 hb1).mono ?_; rintro e w2 ⟨⟨r, cr, r2, cr2, rfl, hI, hI2⟩, hb2⟩
  have HB2 := Lib.hid (bcall hb1 hb2)
  have HI1 := Lib.hid hI
  have HI2 := Lib.hid hI2
  clear RU hb1 hb2 hI hI2
  go_wp2_with fail
  refine (RB.out w2 HB2.out).mono ?_; rintro e w3 ⟨⟨r3, cr3, rfl, hI3⟩, hb3⟩
  have HB3 := Lib.hid (bcall HB2.out hb3)
  have HO := Lib.hid (HI1.out.below hb3)
  have HE := Lib.hid (HI2.out.below hb3)
  have HBI := Lib.hid hI3
  clear RB hb3 hI3 HI1 HI2 HB2
  go_wp2_with fail
  refine (IA.out _).mono ?_; rintro e w9 ⟨rfl, hw9⟩
  have hw9 := hw9.symm
  subst hw9
  go_wp2_with fail
  refine (IB.out _).mono ?_; rintro e w9 ⟨rfl, hw9⟩
  have hw9 := hw9.symm
  subst hw9
  clear IA IB
  go_wp2_with (first
    | (at_builtin
       refine wp_appC tyH rfl (.tmp 55) (.tmp 56) rfl w3.heap.size (.slice none 0 0) [] (some ⟨b, off, none⟩) cap n hs rfl (OC.nil _ _ _ _) rfl HSN.out.symm (HCI.out.below HB3.out) (by simp; have := HSN.out; omega) (Nat.le_refl _) ?_
       intro v w4 hown hg4 hat
       rw [List.nil_append] at hown
       have hb34 : Below w3.heap.size w3 w4 := below_appC (brefl w3) (OC.nil layH 24 w3 w3.heap.size) hg4 (Nat.le_refl _)
       have HB4 := Lib.hid (bcall HB3.out hb34)
       obtain ⟨g, cp, hv, hgb, hgl, hcl, hcm⟩ := heads_pos hown (by rw [HSN.out]; omega)
       rw [HSN.out] at hv hcl
       subst hv
       have hck := HCELL.out w4 HB4.out
       have HOW := Lib.hid hown
       have HB34 := Lib.hid hb34
       clear hown hg4 hat hb34))
  refine (BH.out w4 HB4.out).mono ?_; rintro e w5 ⟨g2, c2, rfl, hown2, hg2, hb5⟩
  have HB5 := Lib.hid (bcall HB4.out hb5)
  have HB35 := Lib.hid (bcall HB34.out hb5)
  have how5 := HOW.out.below hb5
  obtain ⟨x0, hx0⟩ : ∃ x0, hs[α]? = some x0 := ⟨_, List.getElem?_eq_getElem (by rw [HSN.out]; exact hα)⟩
  have hco := heads_cell how5 hx0
  have hfo := heads_fz how5 α
  have hset := heads_set how5 α ⟨some ⟨g2, 0, none⟩, z + 1, c2⟩
  simp only at hset
  have hgw : w.heap.size ≤ g := Nat.le_trans HB3.out.size hgb
  have HB6 := Lib.hid (below_set HB5.out g α (.slice (some ⟨g2, 0, none⟩) (z + 1) c2) hgw)
  have HB36 := Lib.hid (below_set HB35.out g α (.slice (some ⟨g2, 0, none⟩) (z + 1) c2) hgb)
  have HROWS := Lib.hid (show RowsI (w5.setCell ⟨g, α, none⟩ (.slice (some ⟨g2, 0, none⟩) (z + 1) c2)) (some ⟨g, 0, none⟩) cp (ls.set α (row ls α ++ [x])) by
    obtain ⟨p', cp', e, hci2⟩ := hset.form
    injection e with e1 e2 e3
    subst e1 e3
    refine rows_of hci2 ((HRD.out.below HB6.out).set α ⟨some ⟨g2, 0, none⟩, z + 1, c2⟩ (row ls α ++ [x]) (by rw [List.length_append, HROW.out, HLZ.out]; rfl) ?_)
    rw [HROW.out]
    obtain ⟨p3, c3, e, hi3⟩ := (hown2.more (set_grown w5 g α (.slice (some ⟨g2, 0, none⟩) (z + 1) c2)) (.inr (by intro e; injection e with e; simp at e; omega))).form
    injection e with e1 e2 e3
    subst e1 e3
    exact hi3)
  obtain ⟨x0q, x0n, x0c⟩ := x0
  simp only at hco
  clear BH hb5 hown2 hg2 how5 hset HOW HB4 HB34 HB5 HB35 HCI HRD HIR hgb hgl hx0
  go_wp2_with fail
  generalize w5.setCell ⟨g, α, none⟩ (.slice (some ⟨g2, 0, none⟩) (z + 1) c2) = w6 at HB6 HB36 HROWS ⊢
  clear hco hfo hck
  have HO6 := Lib.hid (HO.out.below HB36.out)
  have HBI6 := Lib.hid (HBI.out.below HB36.out)
  have RU2 := Lib.hid (fun W (hW : Below w6.heap.size w6 W) => run_any (some ⟨g, 0, none⟩) cp n _ W (by rw [List.length_set]; exact HN.out) (HROWS.out.below hW) d HCD.out m2 H20.out H21.out k2 HK2.out)
  have RB2 := Lib.hid (fun W (hW : Below w6.heap.size w6 W) => bits_any (some ⟨g, 0, none⟩) cp n _ W (by rw [List.length_set]; exact HN.out) (HROWS.out.below hW) d HCD.out m2 H20.out H21.out k2 HK2.out)
  rw [HER.out] at RU2 RB2
  refine (RU2.out w6 (brefl w6)).mono ?_; rintro e w7 ⟨⟨s4, cs4, s5, cs5, rfl, hI4, _⟩, hb7⟩
  have HB7 := Lib.hid (bcall HB6.out hb7)
  have HB67 := Lib.hid hb7
  have HI4 := Lib.hid hI4
  have HO7 := Lib.hid (HO6.out.below hb7)
  have HBI7 := Lib.hid (HBI6.out.below hb7)
  clear RU2 hI4 hb7 HO6 HBI6 HO HBI HB36
  go_wp2_with fail
  refine (RB2.out w7 HB67.out).mono ?_; rintro e w8 ⟨⟨s6, cs6, rfl, hI6⟩, hb8⟩
  have HB8 := Lib.hid (bcall HB7.out hb8)
  have HO2 := Lib.hid (HI4.out.below hb8)
  have HO1 := Lib.hid (HO7.out.below hb8)
  have HBI1 := Lib.hid (HBI7.out.below hb8)
  have HBI2 := Lib.hid hI6
  have hck := HCELL.out w8 HB8.out
  clear RB2 hI6 hb8 HO7 HBI7 HI4 HB7 HB67 HROWS HB6 HB3
  go_wp2_with fail
  clear hck t1 t2 t3 HCELL HCD H20 H21 HER
  generalize ls.set α (row ls α ++ [x]) = ls2 at HBI2 HBM
  go_loopw [19] (fun iv wr => ∃ j : Nat, j ≤ k ∧ iv = .int .i64 j ∧ Hid (∃ q, wr = w8.drewN q)) (fun i _ => k - (intOf i).toNat)
  case atStart => exact ⟨0, Nat.zero_le _, rfl, Lib.hid ⟨0, rfl⟩⟩
  case round =>
    obtain ⟨j, hj, rfl, HD⟩ := hrel
    have HBW : Hid (Below w8.heap.size w8 wr) := Lib.hid (by obtain ⟨q, rfl⟩ := HD.out; exact bdrewN (brefl w8) q)
    by_cases hjk : j < k
    · have u1 : decide ((j : Int) < (k : Int)) = true := decide_eq_true (by omega)
      obtain ⟨y, hy⟩ : ∃ y, m[j]? = some y := ⟨_, List.getElem?_eq_getElem (by rw [HK.out]; exact hjk)⟩
      obtain ⟨K, _, hyK⟩ := HM.out.num y (List.mem_of_getElem? hy)
      have HO1w := Lib.hid (HO1.out.below HBW.out)
      obtain ⟨rb, ro, rfl⟩ := some_ints HO1w.out (by rw [nums_len, HK.out]; omega)
      have cO := cell_ints HO1w.out j (by rw [nums_len, HK.out]; exact hjk)
      rw [nums_get hy, hyK] at cO
      have HY := Lib.hid hy
      have HYK := Lib.hid hyK
      clear hy hyK
      by_cases hKa : K = α
      · have u2 : ((K : Int) == (α : Int)) = true := by rw [hKa]; simp
        clear hKa
        go_wp2_with fail
        go_roundw
        case rel => exact ⟨j + 1, by omega, by first | rfl | go_num, HD⟩
        case measure => simp [intOf]; omega
      · have u2 : ((K : Int) == (α : Int)) = false := by rw [beq_eq_false_iff_ne]; omega
        have hat := (HM.out.at HG.out HY.out HYK.out).1
        obtain ⟨c, hc⟩ : ∃ c, ((nums m).take j).count (K : Int) = c := ⟨_, rfl⟩
        rw [hc] at hat
        have HC := Lib.hid hc
        have HAT := Lib.hid hat
        have hcr : k ≤ cr := by have := HO1w.out.1; rw [nums_len, HK.out] at this; exact this
        have hcr2 : cr ≤ 9223372036854775807 := by have := HO1w.out.2.1; unfold maxLen at this; omega
        have CO := Lib.hid (fun i => count_any (some ⟨rb, ro, none⟩) cr j ((nums m).take j) (K : Int) (wr.drewN i) (by rw [List.length_take, nums_len, HK.out]; omega) ((ints_take HO1w.out j (by rw [nums_len, HK.out]; omega)).below (bdrewN (brefl wr) i)) c hc)
        have HKA := Lib.hid hKa
        clear hc hat hKa
        go_wp2_with fail
        go_quiet ((go_at_call 11; refine Calls.quiet_of_same (CO.out _)))
        go_wp2_with fail
        clear CO u2 cO u1
        have hjj := hjk
        go_loopw [21] (fun kv wr => ∃ κ : Nat, κ ≤ k2 ∧ kv = .int .i64 κ ∧ Hid (∃ q, wr = w8.drewN q) ∧ Hid (((nums m2).take κ).count (K : Int) ≤ c)) (fun i _ => k2 - (intOf i).toNat)
        case atStart => exact ⟨0, Nat.zero_le _, rfl, Lib.hid (by obtain ⟨z, rfl⟩ := HD.out; exact ⟨z + nq, World.drewN_drewN ..⟩), Lib.hid (by simp)⟩
        case round =>
          obtain ⟨κ, hκ, rfl, HD2, HLE⟩ := hrel
          have HBW2 : Hid (Below w8.heap.size w8 wr) := Lib.hid (by obtain ⟨q, rfl⟩ := HD2.out; exact bdrewN (brefl w8) q)
          have hκ2 : κ < k2 := by
            rcases Nat.lt_or_ge κ k2 with h | h
            · exact h
            · exfalso
              have h1 := HLE.out
              rw [List.take_of_length_le (by rw [nums_len, HK2.out]; exact h), HCNT2.out K HKA.out] at h1
              have := HAT.out
              omega
          have v1 : decide ((κ : Int) < (k2 : Int)) = true := decide_eq_true (by omega)
          obtain ⟨y2, hy2⟩ : ∃ y2, m2[κ]? = some y2 := ⟨_, List.getElem?_eq_getElem (by rw [HK2.out]; exact hκ2)⟩
          obtain ⟨L, _, hyL⟩ := HNUM2.out y2 (List.mem_of_getElem? hy2)
          have HO1x := Lib.hid (HO1.out.below HBW2.out)
          have HO2x := Lib.hid (HO2.out.below HBW2.out)
          obtain ⟨sb, so, rfl⟩ := some_ints HO2x.out (by rw [nums_len, HK2.out]; omega)
          have cO := cell_ints HO1x.out j (by rw [nums_len, HK.out]; exact hjk)
          rw [nums_get HY.out, HYK.out] at cO
          have cP := cell_ints HO2x.out κ (by rw [nums_len, HK2.out]; exact hκ2)
          rw [nums_get hy2, hyL] at cP
          have HTS := Lib.hid (show (nums m2).take (κ + 1) = (nums m2).take κ ++ [(L : Int)] by rw [nums_step hy2, hyL])
          by_cases hLK : L = K
          · have v2 : ((L : Int) != (K : Int)) = false := by rw [hLK]; simp
            obtain ⟨d2, hd2⟩ : ∃ c, ((nums m2).take κ).count (K : Int) = c := ⟨_, rfl⟩
            have hle := HLE.out
            rw [hd2] at hle
            have hcs : k2 ≤ cs4 := by have := HO2x.out.1; rw [nums_len, HK2.out] at this; exact this
            have hcs2 : cs4 ≤ 9223372036854775807 := by have := HO2x.out.2.1; unfold maxLen at this; omega
            have CO := Lib.hid (fun i => count_any (some ⟨sb, so, none⟩) cs4 κ ((nums m2).take κ) (K : Int) (wr.drewN i) (by rw [List.length_take, nums_len, HK2.out]; omega) ((ints_take HO2x.out κ (by rw [nums_len, HK2.out]; omega)).below (bdrewN (brefl wr) i)) d2 hd2)
            by_cases hdc : d2 = c
            · have v3 : ((d2 : Int) != (c : Int)) = false := by rw [hdc]; simp
              have hrr := HRND.out _ _ _ _ _ HY.out HYK.out HKA.out hy2 (by rw [hyL, hLK]) (by rw [hd2, HC.out, hdc])
              have HB1x := Lib.hid (HBI1.out.below HBW2.out)
              have HB2x := Lib.hid (HBI2.out.below HBW2.out)
              obtain ⟨bb, bo, rfl⟩ := some_ints HB1x.out (by rw [bits_len, HK.out]; omega)
              obtain ⟨eb, eo, rfl⟩ := some_ints HB2x.out (by rw [bits_len, HK2.out]; omega)
              have cB := cell_ints HB1x.out j (by rw [bits_len, HK.out]; exact hjk)
              have cE := cell_ints HB2x.out κ (by rw [bits_len, HK2.out]; exact hκ2)
              rw [bits_get ls 5 HY.out] at cB
              rw [bits_get ls2 5 hy2, hrr] at cE
              have hbm := HBM.out y.rnd
              have hr0 := (HFEW.out.rnd y (List.mem_of_getElem? HY.out)).1
              have hbi := HBIN.out y.rnd (by omega)
              rw [if_pos (by omega)] at hbm
              generalize bit ls y.rnd 5 = B1 at cB hbm hbi
              generalize bit ls2 y.rnd 5 = B2 at cE hbm
              obtain ⟨b1, b2⟩ := hbm
              obtain ⟨b3, b4⟩ := hbi
              have v4 : ((κ : Int) == (k2 : Int)) = false := by rw [beq_eq_false_iff_ne]; omega
              have v5 : decide (B2 < B1) = false := decide_eq_false (by omega)
              have v6 : decide (B2 - B1 > x) = false := decide_eq_false (by omega)
              clear hLK hdc hd2 hle hy2 hyL hrr HLE hr0 HTS
              go_wp2_with fail
              go_quiet ((go_at_call 11; refine Calls.quiet_of_same (CO.out _)))
              go_wp2_with fail
              go_quiet (fail)
              go_wp2_with fail
              go_roundw
              case rel => exact ⟨j + 1, by omega, by first | rfl | go_num, Lib.hid (by obtain ⟨z, hz⟩ := HD2.out; rw [hz]; first | exact ⟨_, World.drewN_drewN ..⟩ | (simp only [World.drewN_drewN]; exact ⟨_, rfl⟩))⟩
              case measure => simp [intOf]; omega
            · have v3 : ((d2 : Int) != (c : Int)) = true := by rw [bne_iff_ne]; omega
              have HLE2 := Lib.hid (show ((nums m2).take (κ + 1)).count (K : Int) ≤ c by
                rw [HTS.out, List.count_append, hd2, List.count_cons, List.count_nil, hLK]
                simp
                omega)
              clear hLK hdc hd2 hle hy2 hyL HLE HTS
              go_wp2_with fail
              go_quiet ((go_at_call 11; refine Calls.quiet_of_same (CO.out _)))
              go_wp2_with fail
              go_roundw
              case rel => exact ⟨κ + 1, by omega, by first | rfl | go_num, Lib.hid (by obtain ⟨z, hz⟩ := HD2.out; rw [hz]; exact ⟨_, World.drewN_drewN ..⟩), HLE2⟩
              case measure => simp [intOf]; omega
          · have v2 : ((L : Int) != (K : Int)) = true := by rw [bne_iff_ne]; omega
            have HLE2 := Lib.hid (show ((nums m2).take (κ + 1)).count (K : Int) ≤ c by
              have h0 : ((L : Int) == (K : Int)) = false := by rw [beq_eq_false_iff_ne]; omega
              rw [HTS.out, List.count_append, List.count_cons, List.count_nil, h0]
              have := HLE.out
              simp
              exact this)
            clear hLK hy2 hyL HLE HTS
            go_wp2_with fail
            go_quiet (fail)
            go_wp2_with fail
            go_roundw
            case rel => exact ⟨κ + 1, by omega, by first | rfl | go_num, Lib.hid (by obtain ⟨z, hz⟩ := HD2.out; rw [hz]; exact ⟨_, World.drewN_drewN ..⟩), HLE2⟩
            case measure => simp [intOf]; omega
    · obtain rfl : j = k := by omega
      have u1 : decide ((j : Int) < (j : Int)) = false := decide_eq_false (by omega)
      have HB9 := Lib.hid (bcall HB8.out HBW.out)
      go_wp2_with fail
      go_ret
      exact ⟨by first | rfl | simp, HB9.out⟩

theorem reads : Try.f4.params.toList.all (fun t => Try.prog.readableRec t && decide (t < Try.prog.types.size)) = true := by kernel_rfl

theorem contract (H : Type) (enc : TypeId × Value → H) (W : World) (base : Nat) (args : Array Value) (ds gs : List (DataW H)) (before : List MemPlace)
    (hval : ∀ (j : Nat) t v, Try.f4.params[j]? = some t → args[j]? = some v → Value.okWide Try.prog W .any base t v)
    (hW : DataW.Whole enc Try.prog Try.f4.params.toList Rows.roundsApartSpec.vars false W args.toList ds gs before) :
    Calls Try.prog 4 args W fun e W' => ∃ v, e = .returned v ∧ Rows.roundsApartSpec.post enc Try.prog Try.f4 false true false false W args v W' := by
  have hW' := hW
  obtain ⟨p, q, hA0, hV, rfl, hfz, hnd⟩ := hW
  have hA : DataW.TrodAll enc Try.prog W 0 (fun _ => true) true Try.f4.params.toList args.toList ds p := hA0
  have hlt := hA.lt
  rw [Try.params4] at hA hval
  obtain ⟨v0, vs0, d0, ds0, p0, q0, hargs, rfl, rfl, h0, r0⟩ := trodAll_cons hA
  obtain ⟨v1, vs1, d1, ds1, p1, q1, hvs1, rfl, rfl, h1, r1⟩ := trodAll_cons r0
  obtain ⟨v2, vs2, d2, ds2, p2, q2, hvs2, rfl, rfl, h2, r2⟩ := trodAll_cons r1
  obtain ⟨hvsn, rfl, rfl⟩ := trodAll_nil r2
  simp only [hvsn, hvs2, hvs1] at hargs
  obtain rfl : args = #[v0, v1, v2] := by cases args; simp_all
  obtain ⟨rfl, rfl⟩ := trodVars_none hV
  clear hA0
  obtain ⟨p0a, cap0, l0, rfl, i0, e0⟩ := open_rows Try.underlying22 Try.underlying24 Try.underlying3 (by kernel_rfl) (by kernel_rfl) (hval 0 22 v0 rfl rfl) h0 (fun x hx => hlt x (by simp [hx]))
  obtain ⟨a1, rfl, rfl, rfl, w1⟩ := open_int Try.underlying3 (hval 1 3 v1 rfl rfl) h1
  have b1 := bounds_int w1
  obtain ⟨a2, rfl, rfl, rfl, w2⟩ := open_int Try.underlying3 (hval 2 3 v2 rfl rfl) h2
  have b2 := bounds_int w2
  exact law_post 4 laid reads rfl Try.underlying4 rfl hW' ⟨rfl, rfl, rfl⟩ (by
    by_cases h : code l0 = 0
    · by_cases hab : (0 ≤ a1 ∧ a1 ≤ (l0.length : Int) - 1) ∧ (1 ≤ a2 ∧ a2 ≤ 20)
      · obtain ⟨⟨h1, h2⟩, h3⟩ := hab
        obtain ⟨α, rfl⟩ : ∃ α : Nat, a1 = (α : Int) := ⟨a1.toNat, by omega⟩
        by_cases hd : code (l0.set α (row l0 α ++ [a2])) = 0
        · exact law_good _ _ _ l0 α a2 W rfl i0 h (by omega) h3 hd
        · exact law_full _ _ _ l0 α a2 W rfl i0 h (by omega) h3 _ rfl hd
      · exact law_out _ _ _ l0 a1 a2 W rfl i0 h hab
    · exact law_bad _ _ _ l0 a1 a2 W rfl i0 _ rfl h)

set_option maxRecDepth 100000 in
theorem lifted (os : Os) (started : os.Started) (H : Type) (enc : TypeId × Value → H) :
    ReturnsInHanded {} Try.checked os 4 .any (Rows.roundsApartSpec.pre6 enc Try.prog Try.f4 Rows.roundsApartRow.domain false) (Rows.roundsApartSpec.post enc Try.prog Try.f4 false true false false) := by
  refine returnsInHanded_of_change (C := Try.checked) own started (by kernel_rfl) Try.func4
    (ChangeSpec.witness6 (enc := enc) (C := Try.checked) false ⟨#[], #[.slice none 0 0, .int .i64 0, .int .i64 0], []⟩ 8 (by kernel_rfl) (by kernel_rfl) (by kernel_rfl) (by kernel_rfl)) ?_
  intro W base args ds gs before hval hW _ _
  exact contract H enc W base args ds gs before hval hW

theorem proved : Rows.RoundsApartSaid :=
  OpenClaim.holds_of_wide 4 Try.f4 rfl rfl rfl rfl rfl rfl rfl ⟨rfl, rfl, rfl, rfl, rfl⟩ rfl rfl rfl rfl rfl (by kernel_rfl) Try.func4 (by kernel_rfl)
    (of_decide_eq_true (by kernel_rfl)) (by unfold Func.isWrapper; first | (rw [if_pos (by decide +kernel)]; kernel_rfl) | (rw [if_neg (by decide +kernel)]; exact ⟨rfl, rfl⟩))
    (fun os started H enc _ => lifted os started H enc)
end Go.Proofs.Ytmjkjkiogkmmpaa.RoundsApartL
