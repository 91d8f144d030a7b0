/- SpfLess: one link more makes nothing farther, and one that is no shorter than the path that there is changes nothing: for every input. No condition. -/
import Derived.Test.YthicejpgfmhimaaSpfFact
import Derived.Test.YthicejpgfmhimaaIn3
import Derived.BigQuiet
import Derived.Test.YthicejpgfmhimaaSpfMore
import Derived.Test.YthicejpgfmhimaaLinkArg
namespace Go.Proofs.Ythicejpgfmhimaa.SpfLessL
open Go.ChangeShapes Go.WideShapes Go.ChangeAt Go.RowKit Go.Proofs.Ythicejpgfmhimaa.Kit Go.Proofs.Ythicejpgfmhimaa.App Go.Proofs.Ythicejpgfmhimaa.Cells Go.Proofs.Ythicejpgfmhimaa.Err Go.Proofs.Ythicejpgfmhimaa.Vector Go.Proofs.Ythicejpgfmhimaa.Spf
set_option linter.unusedVariables false
set_option maxRecDepth 20000
set_option maxHeartbeats 2000000
abbrev Law (n : Int) (p : Option Addr) (m cap : Nat) (s : Int) (x : Lk) (w : World) : Prop := Calls Try.prog 6 #[.int .i64 n, .slice p m cap, .int .i64 s, .agg #[.int .i64 x.a, .int .i64 x.b, .int .i64 x.c]] w fun e w' => e = .returned (.bool true) ∧ Below w.heap.size w w'
theorem law_bad (n s : Int) (p : Option Addr) (m cap : Nat) (ls : List Lk) (x : Lk) (w : World) (hm : m = ls.length) (hi : CI layL w p cap ls) (hs : (Lit.int .i64 s).wf = true) (c : Int) (hc : wrong n ls [s] = c) (h0 : c ≠ 0) : Law n p m cap s x w := by
  have hlm := hi.len_le
  rw [← hm] at hlm
  have FR := Lib.hid (fun W (hW : Below w.heap.size w W) => from_bad n s p cap m ls W hm (hi.below hW) hs c hc h0)
  rw [er_ne h0] at FR
  clear hm hi hs hc h0
  have FA := Lib.hid (Spf.fact_any (w.alloc (.cells #[.int .i64 x.a, .int .i64 x.b, .int .i64 x.c] 41)))
  have HB0 := Lib.hid (balloc (brefl w) (.cells #[.int .i64 x.a, .int .i64 x.b, .int .i64 x.c] 41))
  unfold Law
  go_enter Try.func6, Try.ntmps6
  go_wp2_with fail
  refine FA.out.mono ?_; rintro e w1 ⟨rfl, hb1⟩
  have HB1 := Lib.hid (bcall HB0.out hb1)
  clear FA hb1
  go_wp2_with fail
  refine (FR.out w1 HB1.out).mono ?_; rintro e w2 ⟨rfl, hb⟩
  have HB2 := Lib.hid (bcall HB1.out hb)
  clear FR HB1 hb
  go_wp2_with fail
  go_ret
  exact ⟨by first | rfl | simp, HB2.out⟩
theorem law_full (n s : Nat) (p : Option Addr) (cap : Nat) (ls : List Lk) (x : Lk) (w : World) (hm : 32 = ls.length) (hi : CI layL w p cap ls) (g : Vector.Good n ls) (hs : s < n) : Law n p 32 cap s x w := by
  have FR := Lib.hid (fun W (hW : Below w.heap.size w W) => from_good n s p cap 32 ls W hm (hi.below hW) g hs)
  clear hm hi g
  have FA := Lib.hid (Spf.fact_any (w.alloc (.cells #[.int .i64 x.a, .int .i64 x.b, .int .i64 x.c] 41)))
  have HB0 := Lib.hid (balloc (brefl w) (.cells #[.int .i64 x.a, .int .i64 x.b, .int .i64 x.c] 41))
  unfold Law
  go_enter Try.func6, Try.ntmps6
  go_wp2_with fail
  refine FA.out.mono ?_; rintro e w1 ⟨rfl, hb1⟩
  have HB1 := Lib.hid (bcall HB0.out hb1)
  clear FA hb1
  go_wp2_with fail
  refine (FR.out w1 HB1.out).mono ?_; rintro e w2 ⟨u, v, rfl, hu, hv, hb⟩
  have HB2 := Lib.hid (bcall HB1.out hb)
  clear FR HB1 hb hu hv
  go_wp2_with fail
  go_ret
  exact ⟨by first | rfl | simp, HB2.out⟩
theorem law_two (n s : Nat) (p : Option Addr) (m cap : Nat) (ls : List Lk) (x : Lk) (w : World) (hm : m = ls.length) (hi : CI layL w p cap ls) (g : Vector.Good n ls) (hs : s < n) (hm32 : m < 32) : Law n p m cap s x w := by
  have u0 : ((m : Int) == 32) = false := beq_eq_false_iff_ne.2 (by omega)
  have hn8 := g.up
  have hws : (Lit.int .i64 (s : Int)).wf = true := by simp [Lit.wf, IntKind.min, IntKind.max, IntKind.signed, IntKind.bits]; omega
  have FR := Lib.hid (fun W (hW : Below w.heap.size w W) => from_good n s p cap m ls W hm (hi.below hW) g hs)
  obtain ⟨c, hc⟩ : ∃ c, wrong (n : Int) (ls ++ [x]) [(s : Int)] = c := ⟨_, rfl⟩
  have FRB := Lib.hid (fun W q cq (hq : CI layL W q cq (ls ++ [x])) => from_any n s q cq (m + 1) (ls ++ [x]) W (by rw [hm, List.length_append]; rfl) hq hws c hc)
  have HCC := Lib.hid hc
  clear hc
  have HI := Lib.hid (fun W (hW : Below w.heap.size w W) => hi.below hW)
  have HM := Lib.hid hm
  have HG := Lib.hid g
  have HS := Lib.hid hs
  clear hi g hs hm hws
  have FA := Lib.hid (Spf.fact_any (w.alloc (.cells #[.int .i64 x.a, .int .i64 x.b, .int .i64 x.c] 41)))
  have HB0 := Lib.hid (balloc (brefl w) (.cells #[.int .i64 x.a, .int .i64 x.b, .int .i64 x.c] 41))
  have HX0 := Lib.hid (BoxL.new w x 41)
  unfold Law
  go_enter Try.func6, Try.ntmps6
  go_wp2_with fail
  refine FA.out.mono ?_; rintro e w1 ⟨rfl, hb1⟩
  have HB1 := Lib.hid (bcall HB0.out hb1)
  have HX1 := Lib.hid (HX0.out.below hb1 (by simp))
  obtain ⟨B, hB⟩ : ∃ B, w.heap.size = B := ⟨_, rfl⟩
  rw [hB] at HX1 ⊢
  have HBB := Lib.hid hB
  clear FA hb1 HB0 HX0 hB
  go_wp2_with fail
  refine (FR.out w1 HB1.out).mono ?_; rintro e w2 ⟨u, v, rfl, hu, hv, hb⟩
  have HB2 := Lib.hid (bcall HB1.out hb)
  have HX2 := Lib.hid (HX1.out.below hb HX1.out.1)
  obtain ⟨pu, cu, rfl, iu⟩ := hu
  obtain ⟨pv, cv, rfl, iv⟩ := hv
  have IU := Lib.hid iu
  rw [rw1_len, rw1_len]
  clear FR HB1 HX1 hb iu iv
  have hcx := HX2.out.2
  have HCI := Lib.hid (HI.out w2 HB2.out)
  go_wp2_with (first
    | (at_builtin
       refine wp_appC tyL rfl (.tmp 43) (.tmp 44) rfl w2.heap.size (.slice none 0 0) [] p cap m ls rfl (OC.nil _ _ _ _) rfl HM.out HCI.out (by have := HM.out; simp; omega) (Nat.le_refl _) ?_
       intro v3 w3 hown3 hg3 hat3
       have HO3 := Lib.hid (show OC layL 41 w3 w2.heap.size v3 ls from by simpa using hown3)
       have HB3 := Lib.hid (show Below w2.heap.size w2 w3 from below_appC (brefl w2) (OC.nil layL 41 w2 w2.heap.size) hg3 (Nat.le_refl _))
       have HX3 := Lib.hid (HX2.out.below HB3.out HX2.out.1)
       obtain ⟨bl, e0, e1, e2⟩ := HX3.out
       obtain ⟨p3, c3, hv3, hi3⟩ := HO3.out.form
       rw [← HM.out] at hv3
       subst hv3
       clear hown3 hg3 hat3 hi3)
    | (at_builtin
       refine wp_appC tyL rfl (.tmp 48) (.tmp 50) rfl w2.heap.size _ ls (some ⟨w3.heap.size, 0, none⟩) 1 1 [x] rfl (OC.alloc HO3.out _) rfl rfl (CI.one layL w3 x _) (by have := HM.out; simp; omega) (Nat.le_trans HB3.out.size (by simp)) ?_
       intro v4 w4 hown4 hg4 hat4
       have HO4 := Lib.hid hown4
       have HB4 := Lib.hid (show Below w2.heap.size w2 w4 from below_oneC HB3.out HB3.out.size _ HO3.out hg4)
       clear hown4 hg4 hat4 bl e0 e1 e2 HX3 HO3 HB3
       obtain ⟨p4, c4, hv4, hi4⟩ := HO4.out.form
       rw [List.length_append, List.length_singleton, ← HM.out] at hv4
       subst hv4
       have HI4 := Lib.hid hi4
       clear hi4 HO4))
  refine (FRB.out w4 p4 c4 HI4.out).mono ?_; rintro e w5 ⟨u2, v2, rfl, hu2, hv2, hb⟩
  have HB5 := Lib.hid (bcall (bcall HB2.out HB4.out) hb)
  have IU5 := Lib.hid ((IU.out.below HB4.out).below hb)
  have HX5 := Lib.hid ((HX2.out.below HB4.out HX2.out.1).below hb (Nat.lt_of_lt_of_le HX2.out.1 HB4.out.size))
  obtain ⟨pu2, cu2, rfl, iu2⟩ := hu2
  clear FRB hb hv2 HI4 HB4 IU HX2 hcx HCI HB2
  by_cases h0 : c = 0
  · rw [show (fars (n : Int) (ls ++ [x]) (s : Int) c).length = n by unfold fars; rw [if_pos h0, Int.toNat_natCast, rw1_len]]
    rw [h0, er_0]
    have iu3 : Ints w5 pu2 cu2 (rw1 n (ds (ls ++ [x]) s)) := by
      unfold fars at iu2
      rwa [if_pos h0, Int.toNat_natCast, Int.toNat_natCast] at iu2
    have hcg := HCC.out
    rw [h0] at hcg
    obtain ⟨N, S, e1, e2, g2, _⟩ := wrong_good hcg
    obtain rfl : N = n := by omega
    obtain rfl : S = s := by omega
    obtain ⟨⟨xa0, xa1⟩, ⟨xb0, xb1⟩, xc, xne⟩ := g2.all x (List.mem_append_right _ (List.mem_singleton.2 rfl))
    obtain ⟨bx, e0, e1', e2'⟩ := HX5.out
    obtain ⟨a, ha⟩ : ∃ a : Nat, x.a = (a : Int) := ⟨x.a.toNat, by omega⟩
    obtain ⟨b, hb⟩ : ∃ b : Nat, x.b = (b : Int) := ⟨x.b.toNat, by omega⟩
    obtain ⟨d, hd⟩ : ∃ d, x.c = d := ⟨_, rfl⟩
    have HLE := Lib.hid (fun j => more_le (x := x) HG.out S j)
    have HSA := Lib.hid (fun h1 h2 j => more_same (s := S) HG.out g2 h1 h2 j)
    have HBO := Lib.hid (fun j => And.intro (ds_nat HG.out S j) (ds_top HG.out S j))
    rw [ha, hb, hd, Int.toNat_natCast, Int.toNat_natCast] at HSA
    rw [ha] at e0 xa1
    rw [hb] at e1' xb1
    rw [hd] at e2' xc
    have hu := hn8
    have hw1 : IntKind.i64.wrap ((N : Int) - 1) = (N : Int) - 1 := wrap_in (n := (N : Int) - 1) ⟨by omega, by omega⟩
    have IA := Lib.hid (fun W => Drr.in_any (a : Int) 0 ((N : Int) - 1) W true (in_true ⟨by omega, by omega⟩))
    have IB := Lib.hid (fun W => Drr.in_any (b : Int) 0 ((N : Int) - 1) W true (in_true ⟨by omega, by omega⟩))
    have u1 : ((N : Int) != (N : Int)) = false := by simp
    obtain ⟨bu, ou, hpu, hbu, hcu⟩ := IU5.out.2.2.2 (by rw [rw1_len]; have := HG.out.lo; omega)
    obtain ⟨bv, ov, hpv, hbv, hcv⟩ := iu3.2.2.2 (by rw [rw1_len]; have := HG.out.lo; omega)
    subst hpu; subst hpv
    have CU := Lib.hid (fun W (hW : Below w5.heap.size w5 W) j (hj : j < N) => (show W.cell? ⟨bu, ou + j, none⟩ = some (.int .i64 (ds ls S j)) from by
      rw [hW.cell (p := ⟨bu, ou + j, none⟩) hbu, hcu j (by rw [rw1_len]; exact hj), rw1_get _ _ hj]))
    have CV := Lib.hid (fun W (hW : Below w5.heap.size w5 W) j (hj : j < N) => (show W.cell? ⟨bv, ov + j, none⟩ = some (.int .i64 (ds (ls ++ [x]) S j)) from by
      rw [hW.cell (p := ⟨bv, ov + j, none⟩) hbv, hcv j (by rw [rw1_len]; exact hj), rw1_get _ _ hj]))
    have han : a < N := by omega
    have hbn : b < N := by omega
    have ca := CU.out w5 (brefl _) a han
    have cb := CU.out w5 (brefl _) b hbn
    have ba := HBO.out a
    have bb := HBO.out b
    have hx2 : IntKind.i64.wrap (ds ls S a + d) = ds ls S a + d := wrap_in (n := ds ls S a + d) ⟨by omega, by omega⟩
    have hx3 : IntKind.i64.wrap (ds ls S b + d) = ds ls S b + d := wrap_in (n := ds ls S b + d) ⟨by omega, by omega⟩
    generalize ds ls S a = fa at ca ba hx2 HSA
    generalize ds ls S b = fb at cb bb hx3 HSA
    obtain ⟨sa, hsa⟩ : ∃ z, fa + d = z := ⟨_, rfl⟩
    obtain ⟨sb, hsb⟩ : ∃ z, fb + d = z := ⟨_, rfl⟩
    have hw2 : IntKind.i64.wrap (fa + d) = sa := by rw [hx2, hsa]
    have hw3 : IntKind.i64.wrap (fb + d) = sb := by rw [hx3, hsb]
    rw [hsa, hsb] at HSA
    have hsame : ∃ q : Bool, ((decide (sa ≥ fb) = false ∧ q = false) ∨ (decide (sa ≥ fb) = true ∧ decide (sb ≥ fa) = q)) ∧ Hid (q = true → ∀ j, ds (ls ++ [x]) S j = ds ls S j) := by
      by_cases h1 : sa ≥ fb
      · by_cases h2 : sb ≥ fa
        · exact ⟨true, .inr ⟨decide_eq_true h1, decide_eq_true h2⟩, Lib.hid (fun _ => HSA.out h1 h2)⟩
        · exact ⟨false, .inr ⟨decide_eq_true h1, decide_eq_false h2⟩, Lib.hid (fun h => by cases h)⟩
      · exact ⟨false, .inl ⟨decide_eq_false h1, rfl⟩, Lib.hid (fun h => by cases h)⟩
    obtain ⟨q, hq, HQ⟩ := hsame
    have hal : (a : Int) < (N : Int) := by omega
    have hbl : (b : Int) < (N : Int) := by omega
    clear hx2 hx3 hsa hsb g2 hcg HX5 IU5 iu2 iu3 hcu hcv hbu hbv HSA ha hb hd xa0 xb0 xa1 xb1 xc xne e1 e2 bx h0 ba bb
    rcases hq with ⟨t1, hq⟩ | ⟨t1, t2⟩
    · subst hq
      clear HQ
      go_wp2_with fail
      refine (IA.out w5).mono ?_; rintro e w6 ⟨rfl, hw6⟩
      rw [hw6]
      clear hw6 w6
      go_wp2_with fail
      refine (IB.out w5).mono ?_; rintro e w6 ⟨rfl, hw6⟩
      rw [hw6]
      clear hw6 w6
      go_wp2_with fail
      go_quiet (fail)
      go_wp2_with fail
      have HQ0 := Lib.hid (bdrewN (brefl w5) nq)
      generalize w5.drewN nq = w6 at HQ0 ⊢
      clear ca cb e0 e1' e2' hw2 hw3 IA IB hal hbl
      try clear t1
      try clear t2
      go_loopw [17] (fun iv wr => ∃ i : Nat, i ≤ N ∧ iv = .int .i64 i ∧ Hid (Below w5.heap.size w5 wr)) (fun i _ => N - (intOf i).toNat)
      case atStart => exact ⟨0, Nat.zero_le _, rfl, HQ0⟩
      case round =>
        obtain ⟨i, hin, rfl, HR⟩ := hrel
        clear HQ0
        by_cases hlt : i < N
        · have v0 : decide ((i : Int) < (N : Int)) = true := decide_eq_true (by omega)
          have v0' : (i : Int) < (N : Int) := by omega
          have c1 := CU.out wr HR.out i hlt
          have c2 := CV.out wr HR.out i hlt
          have hle := HLE.out i
          have HN := Lib.hid (fun k => bdrewN HR.out k)
          generalize ds ls S i = y1 at *
          generalize ds (ls ++ [x]) S i = y2 at *
          have v1 : decide (y2 > y1) = false := decide_eq_false (by omega)
          clear hle
          go_wp2_with fail
          go_quiet (fail)
          go_wp2_with fail
          go_roundw
          case rel => exact ⟨i + 1, by omega, by first | rfl | go_num, Lib.hid (HN.out _)⟩
          case measure => simp [intOf]; omega
        · obtain rfl : i = N := by omega
          have v0 : decide ((i : Int) < (i : Int)) = false := decide_eq_false (by omega)
          have HBF := Lib.hid (bcall HB5.out HR.out)
          go_wp2_with fail
          go_ret
          exact ⟨by first | rfl | simp, HBF.out⟩
    · cases q with
      | false =>
        clear HQ
        go_wp2_with fail
        refine (IA.out w5).mono ?_; rintro e w6 ⟨rfl, hw6⟩
        rw [hw6]
        clear hw6 w6
        go_wp2_with fail
        refine (IB.out w5).mono ?_; rintro e w6 ⟨rfl, hw6⟩
        rw [hw6]
        clear hw6 w6
        go_wp2_with fail
        go_quiet (fail)
        go_wp2_with fail
        have HQ0 := Lib.hid (bdrewN (brefl w5) nq)
        generalize w5.drewN nq = w6 at HQ0 ⊢
        clear ca cb e0 e1' e2' hw2 hw3 IA IB hal hbl
        try clear t1
        try clear t2
        go_loopw [17] (fun iv wr => ∃ i : Nat, i ≤ N ∧ iv = .int .i64 i ∧ Hid (Below w5.heap.size w5 wr)) (fun i _ => N - (intOf i).toNat)
        case atStart => exact ⟨0, Nat.zero_le _, rfl, HQ0⟩
        case round =>
          obtain ⟨i, hin, rfl, HR⟩ := hrel
          clear HQ0
          by_cases hlt : i < N
          · have v0 : decide ((i : Int) < (N : Int)) = true := decide_eq_true (by omega)
            have v0' : (i : Int) < (N : Int) := by omega
            have c1 := CU.out wr HR.out i hlt
            have c2 := CV.out wr HR.out i hlt
            have hle := HLE.out i
            have HN := Lib.hid (fun k => bdrewN HR.out k)
            generalize ds ls S i = y1 at *
            generalize ds (ls ++ [x]) S i = y2 at *
            have v1 : decide (y2 > y1) = false := decide_eq_false (by omega)
            clear hle
            go_wp2_with fail
            go_quiet (fail)
            go_wp2_with fail
            go_roundw
            case rel => exact ⟨i + 1, by omega, by first | rfl | go_num, Lib.hid (HN.out _)⟩
            case measure => simp [intOf]; omega
          · obtain rfl : i = N := by omega
            have v0 : decide ((i : Int) < (i : Int)) = false := decide_eq_false (by omega)
            have HBF := Lib.hid (bcall HB5.out HR.out)
            go_wp2_with fail
            go_ret
            exact ⟨by first | rfl | simp, HBF.out⟩
      | true =>
        have HQ2 := Lib.hid (HQ.out rfl)
        clear HQ
        go_wp2_with fail
        refine (IA.out w5).mono ?_; rintro e w6 ⟨rfl, hw6⟩
        rw [hw6]
        clear hw6 w6
        go_wp2_with fail
        refine (IB.out w5).mono ?_; rintro e w6 ⟨rfl, hw6⟩
        rw [hw6]
        clear hw6 w6
        go_wp2_with fail
        go_quiet (fail)
        go_wp2_with fail
        have HQ0 := Lib.hid (bdrewN (brefl w5) nq)
        generalize w5.drewN nq = w6 at HQ0 ⊢
        clear ca cb e0 e1' e2' hw2 hw3 IA IB hal hbl
        try clear t1
        try clear t2
        go_loopw [17] (fun iv wr => ∃ i : Nat, i ≤ N ∧ iv = .int .i64 i ∧ Hid (Below w5.heap.size w5 wr)) (fun i _ => N - (intOf i).toNat)
        case atStart => exact ⟨0, Nat.zero_le _, rfl, HQ0⟩
        case round =>
          obtain ⟨i, hin, rfl, HR⟩ := hrel
          clear HQ0
          by_cases hlt : i < N
          · have v0 : decide ((i : Int) < (N : Int)) = true := decide_eq_true (by omega)
            have v0' : (i : Int) < (N : Int) := by omega
            have c1 := CU.out wr HR.out i hlt
            have c2 := CV.out wr HR.out i hlt
            have hle := HLE.out i
            have HN := Lib.hid (fun k => bdrewN HR.out k)
            have hsq := HQ2.out i
            generalize ds ls S i = y1 at *
            generalize ds (ls ++ [x]) S i = y2 at *
            have v1 : decide (y2 > y1) = false := decide_eq_false (by omega)
            clear hle
            subst hsq
            have v2 : (y2 != y2) = false := by simp
            go_wp2_with fail
            go_quiet (fail)
            go_wp2_with fail
            go_roundw
            case rel => exact ⟨i + 1, by omega, by first | rfl | go_num, Lib.hid (HN.out _)⟩
            case measure => simp [intOf]; omega
          · obtain rfl : i = N := by omega
            have v0 : decide ((i : Int) < (i : Int)) = false := decide_eq_false (by omega)
            have HBF := Lib.hid (bcall HB5.out HR.out)
            go_wp2_with fail
            go_ret
            exact ⟨by first | rfl | simp, HBF.out⟩
  · rw [er_ne h0]
    rw [show (fars (n : Int) (ls ++ [x]) (s : Int) c).length = 0 by unfold fars; rw [if_neg h0]; rfl]
    clear HCC h0 iu2 HX5 IU5
    go_wp2_with fail
    go_ret
    exact ⟨by first | rfl | simp, HB5.out⟩
theorem law_any (n s : Int) (p : Option Addr) (m cap : Nat) (ls : List Lk) (x : Lk) (w : World) (hm : m = ls.length) (hi : CI layL w p cap ls) (hs : (Lit.int .i64 s).wf = true) : Law n p m cap s x w := by
  by_cases h : wrong n ls [s] = 0
  · obtain ⟨N, S, rfl, rfl, g, hS⟩ := wrong_good h
    by_cases h32 : m = 32
    · subst h32
      exact law_full N S p cap ls x w hm hi g hS
    · exact law_two N S p m cap ls x w hm hi g hS (by have := g.len; omega)
  · exact law_bad n s p m cap ls x w hm hi hs _ rfl h

theorem reads : Try.f6.params.toList.all (fun t => Try.prog.readableRec t && decide (t < Try.prog.types.size)) = true := by kernel_rfl

theorem contract (H : Type) (enc : TypeId × Value → H) (W : World) (base : Nat) (args : Array Value) (ds gs : List (DataW H)) (before : List MemPlace)
    (hval : ∀ (j : Nat) t v, Try.f6.params[j]? = some t → args[j]? = some v → Value.okWide Try.prog W .any base t v)
    (hW : DataW.Whole enc Try.prog Try.f6.params.toList Rows.spfLessSpec.vars false W args.toList ds gs before) :
    Calls Try.prog 6 args W fun e W' => ∃ v, e = .returned v ∧ Rows.spfLessSpec.post enc Try.prog Try.f6 false true false false W args v W' := by
  have hW' := hW
  obtain ⟨p, q, hA0, hV, rfl, hfz, hnd⟩ := hW
  have hA : DataW.TrodAll enc Try.prog W 0 (fun _ => true) true Try.f6.params.toList args.toList ds p := hA0
  have hlt := hA.lt
  rw [Try.params6] at hA hval
  obtain ⟨v0, vs0, d0, ds0, p0, q0, hargs, rfl, rfl, h0, r0⟩ := trodAll_cons hA
  obtain ⟨v1, vs1, d1, ds1, p1, q1, hvs1, rfl, rfl, h1, r1⟩ := trodAll_cons r0
  obtain ⟨v2, vs2, d2, ds2, p2, q2, hvs2, rfl, rfl, h2, r2⟩ := trodAll_cons r1
  obtain ⟨v3, vs3, d3, ds3, p3, q3, hvs3, rfl, rfl, h3, r3⟩ := trodAll_cons r2
  obtain ⟨hvsn, rfl, rfl⟩ := trodAll_nil r3
  simp only [hvsn, hvs3, hvs2, hvs1] at hargs
  obtain rfl : args = #[v0, v1, v2, v3] := by cases args; simp_all
  obtain ⟨rfl, rfl⟩ := trodVars_none hV
  clear hA0
  obtain ⟨a0, rfl, rfl, rfl, w0⟩ := open_int Try.underlying3 (hval 0 3 v0 rfl rfl) h0
  have b0 := bounds_int w0
  obtain ⟨p1a, cap1, l1, rfl, i1, e1⟩ := Go.Proofs.Ythicejpgfmhimaa.Vector.open_links (hval 1 22 v1 rfl rfl) h1 (fun x hx => hlt x (by simp [hx]))
  obtain ⟨a2, rfl, rfl, rfl, w2⟩ := open_int Try.underlying3 (hval 2 3 v2 rfl rfl) h2
  have b2 := bounds_int w2
  obtain ⟨x3, rfl⟩ := Go.Proofs.Ythicejpgfmhimaa.Vector.open_link (hval 3 41 v3 rfl rfl) h3
  exact law_post 4 laid reads rfl Try.underlying4 rfl hW' ⟨rfl, rfl, rfl⟩ (law_any a0 a2 p1a _ cap1 l1 x3 W rfl i1 w2)

set_option maxRecDepth 100000 in
theorem lifted (os : Os) (started : os.Started) (H : Type) (enc : TypeId × Value → H) :
    ReturnsInHanded {} Try.checked os 6 .any (Rows.spfLessSpec.pre6 enc Try.prog Try.f6 Rows.spfLessRow.domain false) (Rows.spfLessSpec.post enc Try.prog Try.f6 false true false false) := by
  refine returnsInHanded_of_change (C := Try.checked) own started (by kernel_rfl) Try.func6
    (ChangeSpec.witness6 (enc := enc) (C := Try.checked) false ⟨#[], #[.int .i64 0, .slice none 0 0, .int .i64 0, .agg #[.int .i64 0, .int .i64 0, .int .i64 0]], []⟩ 8 (by kernel_rfl) (by kernel_rfl) (by kernel_rfl) (by kernel_rfl)) ?_
  intro W base args ds gs before hval hW _ _
  exact contract H enc W base args ds gs before hval hW

theorem proved : Rows.SpfLessSaid :=
  OpenClaim.holds_of_wide 6 Try.f6 rfl rfl rfl rfl rfl rfl rfl ⟨rfl, rfl, rfl, rfl, rfl⟩ rfl rfl rfl rfl rfl (by kernel_rfl) Try.func6 (by kernel_rfl)
    (of_decide_eq_true (by kernel_rfl)) (by unfold Func.isWrapper; first | (rw [if_pos (by decide +kernel)]; kernel_rfl) | (rw [if_neg (by decide +kernel)]; exact ⟨rfl, rfl⟩))
    (fun os started H enc _ => lifted os started H enc)
end Go.Proofs.Ythicejpgfmhimaa.SpfLessL
