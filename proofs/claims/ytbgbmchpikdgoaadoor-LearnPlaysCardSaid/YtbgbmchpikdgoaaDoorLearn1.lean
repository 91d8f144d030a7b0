/- Package learn: New, isAddr, isPort, the closures, slices.DeleteFunc with them, slices.Delete of the first. No statement is proved here. -/
import Derived.Test.YtbgbmchpikdgoaaDoorLearnSt
import Derived.Deep.RegionLaw
namespace Go.Proofs.YtbgbmchpikdgoaaDoor.Learn
open Go.ChangeShapes Go.WideShapes Go.ChangeAt Go.RowKit Go.Proofs.YtbgbmchpikdgoaaDoor.Kit Go.Proofs.YtbgbmchpikdgoaaDoor.App Go.Proofs.YtbgbmchpikdgoaaDoor.Cells Go.Proofs.YtbgbmchpikdgoaaDoor.Err
set_option linter.unusedVariables false
set_option maxRecDepth 20000
set_option maxHeartbeats 1000000

theorem grown_from {w w' : World} {r : Option Nat} (h : w.drew.grownBy w' r) : w.grownBy w' r := ⟨h.os, h.tape, h.output, h.size, h.block⟩
theorem new_any (w : World) (X : Nat → Prop) (hX : ∀ k, X k → k < w.heap.size) : Calls Tryd.prog 12 #[] w fun e w' => ∃ s, e = .returned (.pointer (some ⟨s, 0, none⟩)) ∧ Sw X w' s [] ∧ Below w.heap.size w w' := by
  have HB := Lib.hid (Blk.new w 49 [.slice none 0 0])
  go_enter Tryd.func12, Tryd.ntmps12
  go_wp2_with fail
  go_ret
  exact ⟨w.heap.size, rfl, ⟨Ok.nil, _, HB.out, OC.nil _ _ _ _, fun k hk => by simp [Value.ownBlock] at hk, fun h => by have := hX _ h; omega, fun k hk => by have := hX k hk; simp; omega⟩, balloc (brefl w) _⟩
theorem isAddr_any (a : Int) (R : Bool) (hR : R = decide (isA a)) (w : World) : Calls Tryd.prog 22 #[.int .i64 a] w fun e w' => e = .returned (.bool R) ∧ w' = w := by
  subst hR
  by_cases h0 : a ≥ 0
  · have t0 : decide (a ≥ 0) = true := decide_eq_true h0
    have HE := Lib.hid (show decide (isA a) = decide (a ≤ 65535) from decide_eq_decide.2 ⟨fun h => by have := h.2; omega, fun h => ⟨h0, by omega⟩⟩)
    go_enter Tryd.func22, Tryd.ntmps22
    go_wp2_with fail
    go_ret
    exact ⟨by rw [HE.out]; rfl, rfl⟩
  · have t0 : decide (a ≥ 0) = false := decide_eq_false h0
    have HE := Lib.hid (show decide (isA a) = false from decide_eq_false (fun h => h0 h.1))
    go_enter Tryd.func22, Tryd.ntmps22
    go_wp2_with fail
    go_ret
    exact ⟨by rw [HE.out]; rfl, rfl⟩
theorem isPort_any (a : Int) (R : Bool) (hR : R = decide (isP a)) (w : World) : Calls Tryd.prog 18 #[.int .i64 a] w fun e w' => e = .returned (.bool R) ∧ w' = w := by
  subst hR
  by_cases h0 : a ≥ 0
  · have t0 : decide (a ≥ 0) = true := decide_eq_true h0
    have HE := Lib.hid (show decide (isP a) = decide (a < 4) from decide_eq_decide.2 ⟨fun h => by have := h.2; omega, fun h => ⟨h0, by omega⟩⟩)
    go_enter Tryd.func18, Tryd.ntmps18
    go_wp2_with fail
    go_ret
    exact ⟨by rw [HE.out]; rfl, rfl⟩
  · have t0 : decide (a ≥ 0) = false := decide_eq_false h0
    have HE := Lib.hid (show decide (isP a) = false from decide_eq_false (fun h => h0 h.1))
    go_enter Tryd.func18, Tryd.ntmps18
    go_wp2_with fail
    go_ret
    exact ⟨by rw [HE.out]; rfl, rfl⟩

theorem close_hear (x : E) (a p : Int) (b : Nat) (w : World) (hb : Blk 52 w b [.int .i64 a, .int .i64 p]) :
    Calls Tryd.prog 27 #[.agg #[.int .i64 x.1, .int .i64 x.2], .pointer (some ⟨b, 0, none⟩)] w fun e w' => e = .returned (.bool (x.1 == a)) ∧ Below w.heap.size w w' := by
  obtain ⟨x1, x2⟩ := x
  have c0 := (hb.alloc (.cells #[.int .i64 x1, .int .i64 x2] 52)).cell 0 _ rfl
  clear hb
  go_enter Tryd.func27, Tryd.ntmps27
  go_wp2_with fail
  go_ret
  exact ⟨rfl, balloc (brefl w) _⟩
theorem close_down (x : E) (p : Int) (b : Nat) (w : World) (hb : Blk 3 w b [.int .i64 p]) :
    Calls Tryd.prog 20 #[.agg #[.int .i64 x.1, .int .i64 x.2], .pointer (some ⟨b, 0, none⟩)] w fun e w' => e = .returned (.bool (x.2 == p)) ∧ Below w.heap.size w w' := by
  obtain ⟨x1, x2⟩ := x
  have c0 := (hb.alloc (.cells #[.int .i64 x1, .int .i64 x2] 52)).cell 0 _ rfl
  clear hb
  go_enter Tryd.func20, Tryd.ntmps20
  go_wp2_with fail
  go_ret
  exact ⟨rfl, balloc (brefl w) _⟩

theorem delete_nil (f : FuncId) (b : Nat) (T : E → Bool) (w : World) (hE : Enters Tryd.prog f) :
    Calls Tryd.prog 19 #[.slice none 0 0, .func (.func f) #[] #[.pointer (some ⟨b, 0, none⟩)]] w fun e w' => e = .returned (.slice none 0 0) ∧ Below w.heap.size w w' := by
  have IX := Lib.hid (index_any (fun W => True) f b T none 0 0 [] w hE (fun W hW => trivial) (fun W x _ h => by cases h) rfl (CI.nil _ _))
  clear hE
  go_enter Tryd.func19, Tryd.ntmps19
  go_wp2_with fail
  refine IX.out.mono ?_; rintro e w2 ⟨⟨r, rfl, hr⟩, hw2⟩
  have HW2 := Lib.hid hw2
  clear IX hw2
  rcases hr with ⟨rfl, _⟩ | ⟨k, x, _, h, _⟩
  · go_wp2_with fail
    go_ret
    exact ⟨rfl, HW2.out⟩
  · exact absurd h (Nat.not_lt_zero _)
theorem delete_any (f : FuncId) (b : Nat) (T : E → Bool) (base : Nat) (v : Value) (l : List E) (w : World) (hE : Enters Tryd.prog f) (hA : Asks (fun W => w.grownBy W v.ownBlock) f b T l) (hr : OE w base v l) :
    Calls Tryd.prog 19 #[v, .func (.func f) #[] #[.pointer (some ⟨b, 0, none⟩)]] w fun e w' => ∃ v', e = .returned v' ∧ OE w' base v' (less T l) ∧ v'.ownBlock = v.ownBlock ∧ w.grownBy w' v.ownBlock := by
  have h0 := hr
  obtain ⟨hl, ⟨rfl, hn⟩ | ⟨g, cap, cur, rfl, _⟩⟩ := hr
  · obtain rfl : l = [] := List.eq_nil_of_length_eq_zero hn
    refine (delete_nil f b T w hE).mono ?_
    rintro e w' ⟨rfl, hb⟩
    exact ⟨_, rfl, OC.nil _ _ _ _, rfl, gbel hb⟩
  · refine (delete_row f b T base g l.length cap l w hE hA h0).mono ?_
    rintro e w' ⟨⟨m, rfl, ho⟩, hg⟩
    exact ⟨_, rfl, ho, rfl, hg⟩

theorem oe_row {w : World} {base n cap : Nat} {p : Option Addr} {l : List E} (h : OE w base (.slice p n cap) l) (hn : 0 < n) : ∃ g, p = some ⟨g, 0, none⟩ := by
  obtain ⟨hl, ⟨e1, h1⟩ | ⟨g, cap', cur, e1, _⟩⟩ := h
  · injection e1 with _ e2 _
    omega
  · injection e1 with e1 _ _
    exact ⟨g, e1⟩
theorem cut_any (base g n cap : Nat) (l : List E) (w : World) (ho : OE w base (.slice (some ⟨g, 0, none⟩) n cap) l) (hn : n = 9) :
    Calls Tryd.prog 28 #[.slice (some ⟨g, 0, none⟩) n cap, .int .i64 0, .int .i64 1] w fun e w' => e = .returned (.slice (some ⟨g, 0, none⟩) 8 cap) ∧ OE w' base (.slice (some ⟨g, 0, none⟩) 8 cap) (l.drop 1) ∧ w.grownBy w' (some g) := by
  subst hn
  obtain ⟨hn, hc9, hcm⟩ := oe_caps ho
  have HN := Lib.hid hn
  have HC := Lib.hid (show OE w.drew base (.slice (some ⟨g, 0, none⟩) 0 cap) [] from by
    obtain ⟨hl, ⟨e1, _⟩ | ⟨g', cap', cur, e1, hb, hh, hnc, hcm, hcs, ht⟩⟩ := ho
    · cases e1
    · injection e1 with e1 e2 e3
      injection e1 with e1
      injection e1 with e1
      subst e1; subst e3
      exact ⟨by simp [Lay.all], .inr ⟨g, cap, cur, rfl, hb, hh, Nat.zero_le _, hcm, hcs, by simp [Lay.all]⟩⟩)
  have HI := Lib.hid (show CI lay w.drew (some ⟨g, 2, none⟩) (cap - 1) (l.drop 1) from by
    obtain ⟨p, c, e, h⟩ := ho.form
    injection e with e1 e2 e3
    subst e1; subst e3
    have h2 := CI.sub h 1 8 (cap - 1) (by omega) (by omega) (by have := h.2.1; omega)
    rw [List.take_of_length_le (by rw [List.length_drop]; omega)] at h2
    exact h2)
  have HO := Lib.hid ho
  have hc1 : (cap = 1) = False := by rw [eq_iff_iff]; exact ⟨fun h => by omega, False.elim⟩
  clear ho hn
  go_enter Tryd.func28, Tryd.ntmps28
  go_wp2_with fail
  go_region_law (refine step_appFit tyE rfl (.tmp 22) (.tmp 25) rfl base g 0 cap [] ⟨g, 2, none⟩ (cap - 1) 8 (l.drop 1) rfl HC.out rfl rfl (by rw [List.length_drop, ← HN.out]) HI.out (by omega) ?_
                 intro w1 hown1 hg1
                 have HOW := Lib.hid hown1
                 have HG1 := Lib.hid hg1
                 clear hown1 hg1)
  all_goals
    obtain ⟨w9, hcl, hown, hg9⟩ := run_clearC tyE w1 base g 8 cap 8 8 1 (cap - 8) (l.drop 1) _ zeroE rfl (by decide) HOW.out (Nat.le_refl _) (by rw [List.length_drop, ← HN.out]; omega) (by omega) (by omega)
    have hcl : ∀ ty, (Builtin.clear_ #[47] ty #[.slice (some ⟨g, 16, none⟩) 1 (cap - 8)]).run Tryd.prog w1 = .ok (.tuple #[]) w9 := hcl
    rw [List.take_of_length_le (by rw [List.length_drop, ← HN.out]; omega)] at hown
    have HOWN := Lib.hid hown
    have HG9 := Lib.hid (gtrans (grown_from HG1.out) hg9)
    have hc8 : (cap = 8) = False := by rw [eq_iff_iff]; exact ⟨fun h => by omega, False.elim⟩
    clear hown hg9 HC HI HO
    go_wp2_with fail
    go_ret
    exact ⟨rfl, HOWN.out, HG9.out⟩

theorem hear_any (X : Nat → Prop) (s : Nat) (l : List E) (a p : Int) (w : World) (H : Sw X w s l) (ha : isA a) (hp : isP p) :
    Calls Tryd.prog 23 #[.pointer (some ⟨s, 0, none⟩), .agg #[.int .i64 a, .int .i64 p]] w fun e w' => e = .returned (.tuple #[]) ∧ Sw X w' s (hear l a p) ∧ Keep X w w' := by
  obtain ⟨hok, v, HV⟩ := H
  have HOK := Lib.hid (hear_ok hok ha hp)
  have hlen := app_len hok a p
  have HLE := Lib.hid hlen
  have HB := Lib.hid (Blk.new w 52 [.int .i64 a, .int .i64 p])
  have H1 := Lib.hid (HV.below (balloc (brefl w) (.cells #[.int .i64 a, .int .i64 p] 52)))
  have HK1 := Lib.hid (Keep.of_below (X := X) (balloc (brefl w) (.cells #[.int .i64 a, .int .i64 p] 52)) HV.xl)
  have hbn : ∀ k, v.ownBlock = some k → k < w.heap.size := fun k hk => (HV.own.lt k hk).2
  have HBN := Lib.hid hbn
  have HSB := Lib.hid HV.blk.lt
  have c1 := H1.out.blk.cell 0 _ rfl
  clear HV hbn hlen hok
  go_enter Tryd.func23, Tryd.ntmps23
  go_wp2_with fail
  refine (delete_any 27 w.heap.size (fun e => e.1 == a) 0 v l _ (enters_of Tryd.func27 (by kernel_rfl) rfl) (fun W x hW _ => close_hear x a p w.heap.size W (HB.out.more hW (fun e => by have := HBN.out _ e.symm; omega))) H1.out.own).mono ?_
  rintro e w2 ⟨v2, rfl, ho2, hb2, hg2⟩
  obtain ⟨p2, cap2, e2, hi2⟩ := ho2.form
  generalize hn2 : (less (fun e => e.1 == a) l).length = n2 at e2
  subst e2
  have hb := H1.out.blk.more hg2 (fun e => (H1.out.ne s e.symm).1 rfl)
  have c2 := hb.cell 0 _ rfl
  have f2 := hb.fz 0
  have H2 := Lib.hid (H1.out.turn hg2 (fun k hk => .inl (by rw [← hb2]; exact hk)) ho2)
  have HK2 := Lib.hid (HK1.out.trans (H1.out.keep_turn hg2 (.slice p2 n2 cap2)))
  have HB2 := Lib.hid ((HB.out.more hg2 (fun e => by have := HBN.out _ e.symm; omega)).other s 0 (.slice p2 n2 cap2) (by have := HSB.out; omega))
  clear hb hb2 hg2 ho2 c1 H1 HK1 HB hi2 hn2
  go_wp2_with fail
  generalize w2.setCell ⟨s, 0, none⟩ (.slice p2 n2 cap2) = w3 at H2 HK2 HB2 ⊢
  have HLB := Lib.hid (show (less (fun e => e.1 == a) l ++ [(a, p)]).length ≤ 9 from HLE.out)
  have HCU := Lib.hid (show cut8 (less (fun e => e.1 == a) l ++ [(a, p)]) = hear l a p from rfl)
  generalize less (fun e => e.1 == a) l = lm at H2 HLB HCU
  have c3 := H2.out.blk.cell 0 _ rfl
  have c4 := HB2.out.cell 0 _ rfl
  have c5 := HB2.out.cell 1 _ rfl
  have HO := Lib.hid (H2.out.own.drew.alloc (.cells #[.int .i64 a, .int .i64 p] 52))
  have HI := Lib.hid (CI.one lay w3.drew ((a, p) : E) 52)
  have HBL := Lib.hid (H2.out.blk.drew.alloc (.cells #[.int .i64 a, .int .i64 p] 52))
  have HNE := Lib.hid (fun e : some s = (Value.slice p2 n2 cap2).ownBlock => (H2.out.ne s e.symm).1 rfl)
  have HG0 := Lib.hid (show w3.grownBy (w3.drew.alloc (.cells #[.int .i64 a, .int .i64 p] 52)) (Value.slice p2 n2 cap2).ownBlock from grown_from (World.grownBy_alloc w3.drew (.cells #[.int .i64 a, .int .i64 p] 52) (Value.slice p2 n2 cap2).ownBlock))
  have c6 : (w3.alloc (.cells #[.int .i64 a, .int .i64 p] 52)).cell? ⟨s, 0, none⟩ = some (.slice p2 n2 cap2) := HBL.out.cell 0 _ rfl
  clear f2 c2
  go_region_law (refine step_appC tyE rfl (.tmp 17) (.tmp 19) rfl 0 (.slice p2 n2 cap2) lm (some ⟨w3.drew.heap.size, 0, none⟩) 1 1 [(a, p)] rfl HO.out rfl rfl HI.out (by have h := HLB.out; rw [List.length_append] at h; omega) (Nat.zero_le _) ?_
                 intro v1 w1 hown1 hg1 hat1
                 have hb1 := HBL.out.more hg1 HNE.out
                 have hc1 := hb1.cell 0 _ rfl
                 have hf1 := hb1.fz 0
                 obtain ⟨p1, cap1, e1, hI1⟩ := hown1.form
                 have HL1 := Lib.hid (rfl : (lm ++ [(a, p)]).length = (lm ++ [(a, p)]).length)
                 generalize hL1 : (lm ++ [(a, p)]).length = L1 at e1 HLB
                 have HL1 := Lib.hid hL1
                 clear hL1
                 subst e1
                 have HOW := Lib.hid hown1
                 have HG1 := Lib.hid hg1
                 have HAT := Lib.hid hat1
                 clear hown1 hg1 hat1 hb1 hI1)
  all_goals
    have HGW := Lib.hid (gtrans HG0.out HG1.out)
    have H4 := Lib.hid (H2.out.turn HGW.out (fun k hk => by
      rcases HAT.out with h | h
      · exact .inl (by rw [← h]; exact hk)
      · rw [h] at hk
        injection hk with hk
        exact .inr (by rw [← hk]; simp)) HOW.out)
    have HK4 := Lib.hid (HK2.out.trans (H2.out.keep_turn HGW.out (.slice p1 L1 cap1)))
    generalize w1.setCell ⟨s, 0, none⟩ (.slice p1 L1 cap1) = w4 at H4 HK4 ⊢
    have c7 := H4.out.blk.cell 0 _ rfl
    clear c3 c4 c5 c6 hc1 hf1 HO HI HBL HNE HG0 HG1 HAT HOW HGW H2 HK2 HB2
    by_cases hL : 8 < L1
    · have t1 : decide ((L1 : Int) > 8) = true := decide_eq_true (by omega)
      have hL9 : L1 = 9 := by have := HLB.out; omega
      obtain ⟨g, rfl⟩ := oe_row H4.out.own (by omega)
      have HC := Lib.hid (fun W (hW : OE W 0 (.slice (some ⟨g, 0, none⟩) L1 cap1) (lm ++ [(a, p)])) => cut_any 0 g L1 cap1 _ W hW hL9)
      have HE := Lib.hid (show hear l a p = (lm ++ [(a, p)]).drop 1 by rw [← HCU.out, cut8, if_pos (by rw [HL1.out]; exact hL)])
      clear HLB HCU HL1 hL9
      go_wp2_with fail
      refine (HC.out _ H4.out.own).mono ?_
      rintro e w5 ⟨rfl, ho5, hg5⟩
      have hb5 := H4.out.blk.more hg5 (fun e => (H4.out.ne s e.symm).1 rfl)
      have c8 := hb5.cell 0 _ rfl
      have f8 := hb5.fz 0
      have H5 := Lib.hid (H4.out.turn (w' := w5) (v' := .slice (some ⟨g, 0, none⟩) 8 cap1) hg5 (fun k hk => .inl hk) ho5)
      have HK5 := Lib.hid (HK4.out.trans (H4.out.keep_turn (w' := w5) hg5 (.slice (some ⟨g, 0, none⟩) 8 cap1)))
      clear hb5 hg5 ho5 c7 H4 HK4 HC
      go_wp2_with fail
      go_end0
      exact ⟨rfl, ⟨HOK.out, _, by rw [HE.out]; exact H5.out⟩, HK5.out⟩
    · have t1 : decide ((L1 : Int) > 8) = false := decide_eq_false (by omega)
      have HE := Lib.hid (show hear l a p = lm ++ [(a, p)] by rw [← HCU.out, cut8, if_neg (by rw [HL1.out]; exact hL)])
      clear HLB HCU HL1
      go_wp2_with fail
      go_end0
      exact ⟨rfl, ⟨HOK.out, _, by rw [HE.out]; exact H4.out⟩, HK4.out⟩
end Go.Proofs.YtbgbmchpikdgoaaDoor.Learn
