/- SpfBest: over the first hop it is as far as from there and its link more; over no other neighbour less, and over no smaller one as much: for every input. No condition. -/
import Derived.Test.YthicejpgfmhimaaSpfFact
import Derived.Test.YthicejpgfmhimaaIn3
import Derived.BigQuiet
import Derived.Test.YthicejpgfmhimaaVecCost
namespace Go.Proofs.Ythicejpgfmhimaa.SpfBestL
open Go.ChangeShapes Go.WideShapes Go.ChangeAt Go.RowKit Go.Proofs.Ythicejpgfmhimaa.Kit Go.Proofs.Ythicejpgfmhimaa.App Go.Proofs.Ythicejpgfmhimaa.Cells Go.Proofs.Ythicejpgfmhimaa.Err Go.Proofs.Ythicejpgfmhimaa.Vector Go.Proofs.Ythicejpgfmhimaa.Spf
set_option linter.unusedVariables false
set_option maxRecDepth 20000
set_option maxHeartbeats 2000000
abbrev Law (n : Int) (p : Option Addr) (m cap : Nat) (s t : Int) (w : World) : Prop := Calls Try.prog 4 #[.int .i64 n, .slice p m cap, .int .i64 s, .int .i64 t] w fun e w' => e = .returned (.bool true) ∧ Below w.heap.size w w'
theorem law_bad (n s t : Int) (p : Option Addr) (m cap : Nat) (ls : List Lk) (w : World) (hm : m = ls.length) (hi : CI layL w p cap ls) (hs : (Lit.int .i64 s).wf = true) (c : Int) (hc : wrong n ls [s] = c) (h0 : c ≠ 0) : Law n p m cap s t w := by
  have hlm := hi.len_le
  rw [← hm] at hlm
  have FR := Lib.hid (fun W (hW : Below w.heap.size w W) => from_bad n s p cap m ls W hm (hi.below hW) hs c hc h0)
  rw [er_ne h0] at FR
  clear hm hi hs hc h0
  have FA := Lib.hid (Spf.fact_any w)
  unfold Law
  go_enter Try.func4, Try.ntmps4
  go_wp2_with fail
  refine FA.out.mono ?_; rintro e w1 ⟨rfl, hb1⟩
  have HB1 := Lib.hid hb1
  clear FA hb1
  go_wp2_with fail
  refine (FR.out w1 HB1.out).mono ?_; rintro e w2 ⟨rfl, hb⟩
  have HB2 := Lib.hid (bcall HB1.out hb)
  clear FR HB1 hb
  go_wp2_with fail
  go_ret
  exact ⟨by first | rfl | simp, HB2.out⟩
theorem law_out (n s : Nat) (t : Int) (p : Option Addr) (m cap : Nat) (ls : List Lk) (w : World) (hm : m = ls.length) (hi : CI layL w p cap ls) (g : Vector.Good n ls) (hs : s < n) (ht : ¬ (0 ≤ t ∧ t ≤ (n : Int) - 1)) : Law n p m cap s t w := by
  have hlm := hi.len_le
  rw [← hm] at hlm
  have FR := Lib.hid (fun W (hW : Below w.heap.size w W) v (hv : v < n) => from_good n v p cap m ls W hm (hi.below hW) g hv)
  have hn8 := g.up
  have hw1 : IntKind.i64.wrap ((n : Int) - 1) = (n : Int) - 1 := wrap_in (n := (n : Int) - 1) ⟨by omega, by omega⟩
  have IN := Lib.hid (fun W => Drr.in_any t 0 ((n : Int) - 1) W false (in_false ht))
  have HS := Lib.hid hs
  clear hm hi g hs ht
  have FA := Lib.hid (Spf.fact_any w)
  unfold Law
  go_enter Try.func4, Try.ntmps4
  go_wp2_with fail
  refine FA.out.mono ?_; rintro e w1 ⟨rfl, hb1⟩
  have HB1 := Lib.hid hb1
  clear FA hb1
  go_wp2_with fail
  refine (FR.out w1 HB1.out s HS.out).mono ?_; rintro e w2 ⟨u, v, rfl, hu, hv, hb⟩
  have HB2 := Lib.hid (bcall HB1.out hb)
  obtain ⟨pu, cu, rfl, iu⟩ := hu
  obtain ⟨pv, cv, rfl, iv⟩ := hv
  have IU := Lib.hid iu
  have IV := Lib.hid iv
  rw [rw1_len, rw1_len]
  clear HB1 hb iu iv
  go_wp2_with fail
  refine (IN.out w2).mono ?_; rintro e w3 ⟨rfl, hw3⟩
  rw [hw3]
  clear hw3 w3
  go_wp2_with fail
  go_ret
  exact ⟨by first | rfl | simp, HB2.out⟩
theorem law_none (n s t : Nat) (p : Option Addr) (m cap : Nat) (ls : List Lk) (w : World) (hm : m = ls.length) (hi : CI layL w p cap ls) (g : Vector.Good n ls) (hs : s < n) (ht : t < n) (ha : away ls s t) : Law n p m cap s t w := by
  have hlm := hi.len_le
  rw [← hm] at hlm
  have FR := Lib.hid (fun W (hW : Below w.heap.size w W) v (hv : v < n) => from_good n v p cap m ls W hm (hi.below hW) g hv)
  have hn8 := g.up
  have hw1 : IntKind.i64.wrap ((n : Int) - 1) = (n : Int) - 1 := wrap_in (n := (n : Int) - 1) ⟨by omega, by omega⟩
  have IN := Lib.hid (fun W => Drr.in_any (t : Int) 0 ((n : Int) - 1) W true (in_true ⟨by omega, by omega⟩))
  have u0 : ((n : Int) != (n : Int)) = false := by simp
  have ht' : (t : Int) < (n : Int) := by omega
  have HS := Lib.hid hs
  have HT := Lib.hid ht
  have hh := hop_none g ha
  have hu1 : ((t : Int) == (s : Int)) = true ∨ (((t : Int) == (s : Int)) = false ∧ (ds ls s t == 1000) = true) := by
    by_cases e : t = s
    · exact .inl (by rw [e]; simp)
    · refine .inr ⟨beq_eq_false_iff_ne.2 (by omega), ?_⟩
      rcases ha with h | h
      · exact absurd h.symm e
      · rw [h]; rfl
  clear hm hi g ha hs
  have FA := Lib.hid (Spf.fact_any w)
  unfold Law
  go_enter Try.func4, Try.ntmps4
  go_wp2_with fail
  refine FA.out.mono ?_; rintro e w1 ⟨rfl, hb1⟩
  have HB1 := Lib.hid hb1
  clear FA hb1
  go_wp2_with fail
  refine (FR.out w1 HB1.out s HS.out).mono ?_; rintro e w2 ⟨u, v, rfl, hu, hv, hb⟩
  have HB2 := Lib.hid (bcall HB1.out hb)
  obtain ⟨pu, cu, rfl, iu⟩ := hu
  obtain ⟨pv, cv, rfl, iv⟩ := hv
  have IU := Lib.hid iu
  have IV := Lib.hid iv
  rw [rw1_len, rw1_len]
  clear HB1 hb iu iv
  obtain ⟨bu, ou, hpu, hbu, hcu⟩ := IU.out.2.2.2 (by rw [rw1_len]; omega)
  obtain ⟨bv, ov, hpv, hbv, hcv⟩ := IV.out.2.2.2 (by rw [rw1_len]; omega)
  subst hpu; subst hpv
  have CU := Lib.hid (fun W (hW : Below w2.heap.size w2 W) => (show W.cell? ⟨bu, ou + t, none⟩ = some (.int .i64 (ds ls s t)) from by
    rw [hW.cell (p := ⟨bu, ou + t, none⟩) hbu, hcu t (by rw [rw1_len]; exact HT.out), rw1_get _ _ HT.out]))
  have CV := Lib.hid (fun W (hW : Below w2.heap.size w2 W) => (show W.cell? ⟨bv, ov + t, none⟩ = some (.int .i64 (hop ls s t)) from by
    rw [hW.cell (p := ⟨bv, ov + t, none⟩) hbv, hcv t (by rw [rw1_len]; exact HT.out), rw1_get _ _ HT.out]))
  clear hbu hcu hbv hcv IU IV
  have cu0 := CU.out w2 (brefl _)
  have cv0 := CV.out w2 (brefl _)
  rw [hh] at cv0
  clear hh FR
  generalize ds ls s t = f at cu0 hu1
  go_wp2_with fail
  refine (IN.out w2).mono ?_; rintro e w3 ⟨rfl, hw3⟩
  rw [hw3]
  clear hw3 w3
  rcases hu1 with h1 | ⟨h1, h2⟩
  all_goals
    go_wp2_with fail
    go_ret
    exact ⟨by first | rfl | simp, HB2.out⟩
theorem law_good (n s t : Nat) (p : Option Addr) (m cap : Nat) (ls : List Lk) (w : World) (hm : m = ls.length) (hi : CI layL w p cap ls) (g : Vector.Good n ls) (hs : s < n) (ht : t < n) (ha : ¬ away ls s t) : Law n p m cap s t w := by
  have hlm := hi.len_le
  rw [← hm] at hlm
  have FR := Lib.hid (fun W (hW : Below w.heap.size w W) v (hv : v < n) => from_good n v p cap m ls W hm (hi.below hW) g hv)
  have hn8 := g.up
  have hw1 : IntKind.i64.wrap ((n : Int) - 1) = (n : Int) - 1 := wrap_in (n := (n : Int) - 1) ⟨by omega, by omega⟩
  have IN := Lib.hid (fun W => Drr.in_any (t : Int) 0 ((n : Int) - 1) W true (in_true ⟨by omega, by omega⟩))
  have u0 : ((n : Int) != (n : Int)) = false := by simp
  have ht' : (t : Int) < (n : Int) := by omega
  have HS := Lib.hid hs
  have HT := Lib.hid ht
  obtain ⟨x, hh, hnb, hmin, hxn⟩ := hop_some g ha
  have h1 : ((t : Int) == (s : Int)) = false := beq_eq_false_iff_ne.2 (fun e => ha (.inl (by omega)))
  have h2 : (ds ls s t == 1000) = false := beq_eq_false_iff_ne.2 (fun e => ha (.inr e))
  have hbf := And.intro (ds_nat g s t) (ds_top g s t)
  have IX := Lib.hid (fun W => Drr.in_any (x : Int) 0 ((n : Int) - 1) W true (in_true ⟨by omega, by omega⟩))
  have HNB := Lib.hid hnb
  have HMN := Lib.hid hmin
  have HG := Lib.hid g
  have HHH := Lib.hid hh
  have RC := Lib.hid (fun W (hW : Below w.heap.size w W) v => rcost_any p cap m ls (s : Int) (v : Int) W hm (hi.below hW))
  clear hm hi g ha hs hnb hmin
  have FA := Lib.hid (Spf.fact_any w)
  unfold Law
  go_enter Try.func4, Try.ntmps4
  go_wp2_with fail
  refine FA.out.mono ?_; rintro e w1 ⟨rfl, hb1⟩
  have HB1 := Lib.hid hb1
  clear FA hb1
  go_wp2_with fail
  refine (FR.out w1 HB1.out s HS.out).mono ?_; rintro e w2 ⟨u, v, rfl, hu, hv, hb⟩
  have HB2 := Lib.hid (bcall HB1.out hb)
  obtain ⟨pu, cu, rfl, iu⟩ := hu
  obtain ⟨pv, cv, rfl, iv⟩ := hv
  have IU := Lib.hid iu
  have IV := Lib.hid iv
  rw [rw1_len, rw1_len]
  clear HB1 hb iu iv
  obtain ⟨bu, ou, hpu, hbu, hcu⟩ := IU.out.2.2.2 (by rw [rw1_len]; omega)
  obtain ⟨bv, ov, hpv, hbv, hcv⟩ := IV.out.2.2.2 (by rw [rw1_len]; omega)
  subst hpu; subst hpv
  have CU := Lib.hid (fun W (hW : Below w2.heap.size w2 W) => (show W.cell? ⟨bu, ou + t, none⟩ = some (.int .i64 (ds ls s t)) from by
    rw [hW.cell (p := ⟨bu, ou + t, none⟩) hbu, hcu t (by rw [rw1_len]; exact HT.out), rw1_get _ _ HT.out]))
  have CV := Lib.hid (fun W (hW : Below w2.heap.size w2 W) => (show W.cell? ⟨bv, ov + t, none⟩ = some (.int .i64 (hop ls s t)) from by
    rw [hW.cell (p := ⟨bv, ov + t, none⟩) hbv, hcv t (by rw [rw1_len]; exact HT.out), rw1_get _ _ HT.out]))
  clear hbu hcu hbv hcv IU IV
  have cu0 := CU.out w2 (brefl _)
  have cv0 := CV.out w2 (brefl _)
  rw [hh] at cv0 CV
  obtain ⟨f, hf⟩ : ∃ f, ds ls s t = f := ⟨_, rfl⟩
  rw [hf] at cu0 CU h2 hbf
  have HF := Lib.hid hf
  clear hh hf
  go_wp2_with fail
  refine (IN.out w2).mono ?_; rintro e w3 ⟨rfl, hw3⟩
  rw [hw3]
  clear hw3 w3
  go_wp2_with fail
  refine (IX.out w2).mono ?_; rintro e w3 ⟨rfl, hw3⟩
  rw [hw3]
  clear hw3 w3
  go_wp2_with fail
  clear cu0 cv0 IN IX h1 h2
  go_loopw [13] (fun iv wr => ∃ i : Nat, i ≤ n ∧ iv = .int .i64 i ∧ Hid (Below w2.heap.size w2 wr)) (fun i _ => n - (intOf i).toNat)
  case atStart => exact ⟨0, Nat.zero_le _, rfl, Lib.hid (brefl _)⟩
  case round =>
    obtain ⟨i, hin, rfl, HR⟩ := hrel
    by_cases hlt : i < n
    · have v0 : decide ((i : Int) < (n : Int)) = true := decide_eq_true (by omega)
      have C1 := Lib.hid (RC.out wr (bcall HB2.out HR.out) i)
      have cv1 := CV.out wr HR.out
      change Hid (Calls _ _ _ _ fun e w' => e = .returned (.int .i64 (co ls s i)) ∧ w' = wr) at C1
      by_cases hskip : i = s ∨ co ls s i = 1000
      · have hix : i ≠ x := fun e => by
          subst e
          rcases hskip with e | e
          · have := (co_few HG.out HNB.out.1).2.2.2.2
            exact this e.symm
          · exact HNB.out.1 e
        have k0 : ((i : Int) == (x : Int)) = false := beq_eq_false_iff_ne.2 (by omega)
        have k1 : ((i : Int) == (s : Int)) = true ∨ (((i : Int) == (s : Int)) = false ∧ (co ls s i == 1000) = true) := by
          by_cases e : i = s
          · exact .inl (by rw [e]; simp)
          · refine .inr ⟨beq_eq_false_iff_ne.2 (by omega), ?_⟩
            rcases hskip with h | h
            · exact absurd h e
            · rw [h]; rfl
        generalize co ls s i = c at C1 k1
        clear hskip hix
        go_wp2_with fail
        refine C1.out.mono ?_; rintro e w4 ⟨rfl, rfl⟩
        rcases k1 with k1 | ⟨k1, k2⟩
        all_goals
          go_wp2_with fail
          go_roundw
          case rel => exact ⟨i + 1, by omega, by first | rfl | go_num, HR⟩
          case measure => simp [intOf]; omega
      · have his : i ≠ s := fun e => hskip (.inl e)
        have hco : co ls s i ≠ 1000 := fun e => hskip (.inr e)
        have k1 : ((i : Int) == (s : Int)) = false := beq_eq_false_iff_ne.2 (by omega)
        have k2 : (co ls s i == 1000) = false := beq_eq_false_iff_ne.2 hco
        have FI := Lib.hid (FR.out wr (bcall HB2.out HR.out) i hlt)
        have hcb := co_few HG.out hco
        have hdb := And.intro (ds_nat HG.out i t) (ds_top HG.out i t)
        have htri : f ≤ co ls s i + ds ls i t := by
          have h1 := ds_tri HG.out s i t
          have h2 := ds_co HG.out s i
          rw [HF.out] at h1
          omega
        have hx1 : i = x → co ls s i + ds ls i t = f := fun e => by rw [e, ← HF.out]; exact HNB.out.2
        have hx2 : i < x → co ls s i + ds ls i t ≠ f := fun e h => HMN.out i e ⟨hco, by rw [HF.out]; exact h⟩
        obtain ⟨c, hc⟩ : ∃ c, co ls s i = c := ⟨_, rfl⟩
        rw [hc] at C1 k2 hcb htri hx1 hx2
        obtain ⟨y, hy⟩ : ∃ y, ds ls i t = y := ⟨_, rfl⟩
        rw [hy] at hdb htri hx1 hx2
        have HY := Lib.hid hy
        obtain ⟨z, hz⟩ : ∃ z, c + y = z := ⟨_, rfl⟩
        rw [hz] at hx1 hx2
        have hwz : IntKind.i64.wrap (c + y) = z := by rw [← hz]; exact wrap_in (n := c + y) ⟨by omega, by omega⟩
        have d1 : decide (z < f) = false := decide_eq_false (by omega)
        have hcase : (((i : Int) == (x : Int)) = true ∧ (z != f) = false ∧ decide ((i : Int) < (x : Int)) = false ∧ ¬ (i : Int) < (x : Int)) ∨ (((i : Int) == (x : Int)) = false ∧ decide ((i : Int) < (x : Int)) = true ∧ (z == f) = false ∧ (i : Int) < (x : Int)) ∨ (((i : Int) == (x : Int)) = false ∧ decide ((i : Int) < (x : Int)) = false ∧ ¬ (i : Int) < (x : Int)) := by
          rcases Nat.lt_trichotomy i x with e | e | e
          · exact .inr (.inl ⟨beq_eq_false_iff_ne.2 (by omega), decide_eq_true (by omega), beq_eq_false_iff_ne.2 (hx2 e), by omega⟩)
          · exact .inl ⟨by rw [e]; simp, by rw [hx1 e]; simp, decide_eq_false (by omega), by omega⟩
          · exact .inr (.inr ⟨beq_eq_false_iff_ne.2 (by omega), decide_eq_false (by omega), by omega⟩)
        have hts : t < n := HT.out
        clear hskip his hco hcb htri hx1 hx2 hc hy hz hdb
        go_wp2_with fail
        refine C1.out.mono ?_; rintro e w4 ⟨rfl, rfl⟩
        go_wp2_with fail
        refine FI.out.mono ?_; rintro e w5 ⟨u5, v5, rfl, hu5, hv5, hb5⟩
        have HR5 := Lib.hid (bcall HR.out hb5)
        obtain ⟨p5, c5, rfl, i5⟩ := hu5
        rw [rw1_len]
        obtain ⟨b5, o5, hp5, hlt5, hc5⟩ := i5.2.2.2 (by rw [rw1_len]; omega)
        subst hp5
        have e5 := hc5 t (by rw [rw1_len]; exact hts)
        rw [rw1_get _ _ hts, HY.out] at e5
        have cv5 := CV.out w5 HR5.out
        have cu5 := CU.out w5 HR5.out
        clear FI hb5 hv5 i5 hlt5 hc5 HR cv1 C1
        rcases hcase with ⟨j1, j2, j3, j4⟩ | ⟨j1, j2, j3, j4⟩ | ⟨j1, j2, j3⟩
        all_goals
          go_wp2_with fail
          go_roundw
          case rel => exact ⟨i + 1, by omega, by first | rfl | go_num, HR5⟩
          case measure => simp [intOf]; omega
    · obtain rfl : i = n := by omega
      have v0 : decide ((i : Int) < (i : Int)) = false := decide_eq_false (by omega)
      have HBF := Lib.hid (bcall HB2.out HR.out)
      go_wp2_with fail
      go_ret
      exact ⟨by first | rfl | simp, HBF.out⟩
theorem law_any (n s t : Int) (p : Option Addr) (m cap : Nat) (ls : List Lk) (w : World) (hm : m = ls.length) (hi : CI layL w p cap ls) (hs : (Lit.int .i64 s).wf = true) : Law n p m cap s t w := by
  by_cases h : wrong n ls [s] = 0
  · obtain ⟨N, S, rfl, rfl, g, hS⟩ := wrong_good h
    by_cases ht : 0 ≤ t ∧ t ≤ (N : Int) - 1
    · obtain ⟨T, rfl⟩ : ∃ T : Nat, t = (T : Int) := ⟨t.toNat, by omega⟩
      by_cases ha : away ls S T
      · exact law_none N S T p m cap ls w hm hi g hS (by omega) ha
      · exact law_good N S T p m cap ls w hm hi g hS (by omega) ha
    · exact law_out N S t p m cap ls w hm hi g hS ht
  · exact law_bad n s t p m cap ls w hm hi hs _ rfl h

theorem reads : Try.f4.params.toList.all (fun t => Try.prog.readableRec t && decide (t < Try.prog.types.size)) = true := by kernel_rfl

theorem contract (H : Type) (enc : TypeId × Value → H) (W : World) (base : Nat) (args : Array Value) (ds gs : List (DataW H)) (before : List MemPlace)
    (hval : ∀ (j : Nat) t v, Try.f4.params[j]? = some t → args[j]? = some v → Value.okWide Try.prog W .any base t v)
    (hW : DataW.Whole enc Try.prog Try.f4.params.toList Rows.spfBestSpec.vars false W args.toList ds gs before) :
    Calls Try.prog 4 args W fun e W' => ∃ v, e = .returned v ∧ Rows.spfBestSpec.post enc Try.prog Try.f4 false true false false W args v W' := by
  have hW' := hW
  obtain ⟨p, q, hA0, hV, rfl, hfz, hnd⟩ := hW
  have hA : DataW.TrodAll enc Try.prog W 0 (fun _ => true) true Try.f4.params.toList args.toList ds p := hA0
  have hlt := hA.lt
  rw [Try.params4] at hA hval
  obtain ⟨v0, vs0, d0, ds0, p0, q0, hargs, rfl, rfl, h0, r0⟩ := trodAll_cons hA
  obtain ⟨v1, vs1, d1, ds1, p1, q1, hvs1, rfl, rfl, h1, r1⟩ := trodAll_cons r0
  obtain ⟨v2, vs2, d2, ds2, p2, q2, hvs2, rfl, rfl, h2, r2⟩ := trodAll_cons r1
  obtain ⟨v3, vs3, d3, ds3, p3, q3, hvs3, rfl, rfl, h3, r3⟩ := trodAll_cons r2
  obtain ⟨hvsn, rfl, rfl⟩ := trodAll_nil r3
  simp only [hvsn, hvs3, hvs2, hvs1] at hargs
  obtain rfl : args = #[v0, v1, v2, v3] := by cases args; simp_all
  obtain ⟨rfl, rfl⟩ := trodVars_none hV
  clear hA0
  obtain ⟨a0, rfl, rfl, rfl, w0⟩ := open_int Try.underlying3 (hval 0 3 v0 rfl rfl) h0
  have b0 := bounds_int w0
  obtain ⟨p1a, cap1, l1, rfl, i1, e1⟩ := Go.Proofs.Ythicejpgfmhimaa.Vector.open_links (hval 1 22 v1 rfl rfl) h1 (fun x hx => hlt x (by simp [hx]))
  obtain ⟨a2, rfl, rfl, rfl, w2⟩ := open_int Try.underlying3 (hval 2 3 v2 rfl rfl) h2
  have b2 := bounds_int w2
  obtain ⟨a3, rfl, rfl, rfl, w3⟩ := open_int Try.underlying3 (hval 3 3 v3 rfl rfl) h3
  have b3 := bounds_int w3
  exact law_post 4 laid reads rfl Try.underlying4 rfl hW' ⟨rfl, rfl, rfl⟩ (law_any a0 a2 a3 p1a _ cap1 l1 W rfl i1 w2)

set_option maxRecDepth 100000 in
theorem lifted (os : Os) (started : os.Started) (H : Type) (enc : TypeId × Value → H) :
    ReturnsInHanded {} Try.checked os 4 .any (Rows.spfBestSpec.pre6 enc Try.prog Try.f4 Rows.spfBestRow.domain false) (Rows.spfBestSpec.post enc Try.prog Try.f4 false true false false) := by
  refine returnsInHanded_of_change (C := Try.checked) own started (by kernel_rfl) Try.func4
    (ChangeSpec.witness6 (enc := enc) (C := Try.checked) false ⟨#[], #[.int .i64 0, .slice none 0 0, .int .i64 0, .int .i64 0], []⟩ 8 (by kernel_rfl) (by kernel_rfl) (by kernel_rfl) (by kernel_rfl)) ?_
  intro W base args ds gs before hval hW _ _
  exact contract H enc W base args ds gs before hval hW

theorem proved : Rows.SpfBestSaid :=
  OpenClaim.holds_of_wide 4 Try.f4 rfl rfl rfl rfl rfl rfl rfl ⟨rfl, rfl, rfl, rfl, rfl⟩ rfl rfl rfl rfl rfl (by kernel_rfl) Try.func4 (by kernel_rfl)
    (of_decide_eq_true (by kernel_rfl)) (by unfold Func.isWrapper; first | (rw [if_pos (by decide +kernel)]; kernel_rfl) | (rw [if_neg (by decide +kernel)]; exact ⟨rfl, rfl⟩))
    (fun os started H enc _ => lifted os started H enc)
end Go.Proofs.Ythicejpgfmhimaa.SpfBestL
