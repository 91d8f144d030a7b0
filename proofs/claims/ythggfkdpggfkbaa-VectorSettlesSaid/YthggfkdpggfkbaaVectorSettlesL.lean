/- VectorSettles: in fewer rounds than there are nodes nobody learns of a smaller distance any more, and no round makes it worse: for every input. No condition. -/
import Derived.Test.YthggfkdpggfkbaaVecFact
import Derived.Test.YthggfkdpggfkbaaTabAt
import Derived.Test.YthggfkdpggfkbaaIn3
import Derived.BigQuiet
namespace Go.Proofs.Ythggfkdpggfkbaa.VectorSettlesL
open Go.ChangeShapes Go.WideShapes Go.ChangeAt Go.RowKit Go.Proofs.Ythggfkdpggfkbaa.Kit Go.Proofs.Ythggfkdpggfkbaa.App Go.Proofs.Ythggfkdpggfkbaa.Cells Go.Proofs.Ythggfkdpggfkbaa.Err Go.Proofs.Ythggfkdpggfkbaa.Vector
set_option linter.unusedVariables false
set_option maxRecDepth 20000
set_option maxHeartbeats 2000000
abbrev Law (n : Int) (p : Option Addr) (m cap : Nat) (r : Int) (w : World) : Prop := Calls Try.prog 3 #[.int .i64 n, .slice p m cap, .int .i64 r] w fun e w' => e = .returned (.bool true) ∧ Below w.heap.size w w'
theorem law_bad (n : Int) (p : Option Addr) (m cap : Nat) (ls : List Lk) (r : Int) (w : World) (hm : m = ls.length) (hi : CI layL w p cap ls) (c : Int) (hc : code n ls = c) (h0 : c ≠ 0) : Law n p m cap r w := by
  have hlm := hi.len_le
  rw [← hm] at hlm
  have SE := Lib.hid (fun W (hW : Below w.heap.size w W) => settle_any n p cap m ls W hm (hi.below hW) c hc 0 (fun h => absurd h h0) (fun _ => rfl))
  rw [er_ne h0] at SE
  clear hm hi hc h0
  have FA := Lib.hid (fact_any w)
  unfold Law
  go_enter Try.func3, Try.ntmps3
  go_wp2_with fail
  refine FA.out.mono ?_; rintro e w1 ⟨rfl, hb1⟩
  clear FA
  go_wp2_with fail
  refine (SE.out w1 hb1).mono ?_; rintro e w2 ⟨rfl, hb2⟩
  have HB2 := Lib.hid (bcall hb1 hb2)
  clear SE hb1 hb2
  go_wp2_with fail
  go_ret
  exact ⟨by first | rfl | simp, HB2.out⟩
theorem law_out (n : Nat) (p : Option Addr) (m cap : Nat) (ls : List Lk) (r : Int) (w : World) (hm : m = ls.length) (hi : CI layL w p cap ls) (g : Vector.Good n ls) (hr : ¬ (0 ≤ r ∧ r ≤ 19)) : Law n p m cap r w := by
  have hlm := hi.len_le
  rw [← hm] at hlm
  obtain ⟨s, hs⟩ := settled_is g
  have hsn := hs.lt g
  have hn8 := g.up
  have SE := Lib.hid (fun W (hW : Below w.heap.size w W) => settle_any (n : Int) p cap m ls W hm (hi.below hW) 0 (code_good g) s (fun _ k hk => by
    obtain rfl : k = n := by omega
    exact hs) (fun h => absurd rfl h))
  rw [er_0] at SE
  have t0 : decide ((s : Int) < 0) = false := decide_eq_false (by omega)
  have t1 : decide ((s : Int) ≥ (n : Int)) = false := decide_eq_false (by omega)
  have t2 : decide ((s : Int) ≥ 0) = true := decide_eq_true (by omega)
  have t3 : decide ((s : Int) < (n : Int)) = true := decide_eq_true (by omega)
  have IN := Lib.hid (fun W => Drr.in_any r 0 19 W false (in_false hr))
  clear hm hi g hs hr
  have FA := Lib.hid (fact_any w)
  unfold Law
  go_enter Try.func3, Try.ntmps3
  go_wp2_with fail
  refine FA.out.mono ?_; rintro e w1 ⟨rfl, hb1⟩
  clear FA
  go_wp2_with fail
  refine (SE.out w1 hb1).mono ?_; rintro e w2 ⟨rfl, hb2⟩
  have HB2 := Lib.hid (bcall hb1 hb2)
  clear SE hb1 hb2
  go_wp2_with fail
  refine (IN.out w2).mono ?_; rintro e w3 ⟨rfl, rfl⟩
  go_wp2_with fail
  go_ret
  exact ⟨by first | rfl | simp, HB2.out⟩
theorem law_good (n : Nat) (p : Option Addr) (m cap : Nat) (ls : List Lk) (r : Nat) (w : World) (hm : m = ls.length) (hi : CI layL w p cap ls) (g : Vector.Good n ls) (hr : r ≤ 19) : Law n p m cap r w := by
  have hlm := hi.len_le
  rw [← hm] at hlm
  obtain ⟨s, hs⟩ := settled_is g
  have hsn := hs.lt g
  have hn8 := g.up
  have SE := Lib.hid (fun W (hW : Below w.heap.size w W) => settle_any (n : Int) p cap m ls W hm (hi.below hW) 0 (code_good g) s (fun _ k hk => by
    obtain rfl : k = n := by omega
    exact hs) (fun h => absurd rfl h))
  rw [er_0] at SE
  have t0 : decide ((s : Int) < 0) = false := decide_eq_false (by omega)
  have t1 : decide ((s : Int) ≥ (n : Int)) = false := decide_eq_false (by omega)
  have t2 : decide ((s : Int) ≥ 0) = true := decide_eq_true (by omega)
  have t3 : decide ((s : Int) < (n : Int)) = true := decide_eq_true (by omega)
  have IN := Lib.hid (fun W => Drr.in_any (r : Int) 0 19 W true (in_true ⟨by omega, by omega⟩))
  have RA := Lib.hid (fun W (hW : Below w.heap.size w W) => rounds_good n r p cap m ls W g hm (hi.below hW) (by omega))
  have RB := Lib.hid (fun W (hW : Below w.heap.size w W) => rounds_good n (r + 1) p cap m ls W g hm (hi.below hW) (by omega))
  have e1 : (((r + 1 : Nat)) : Int) = (r : Int) + 1 := by omega
  rw [e1] at RB
  have hw1 : IntKind.i64.wrap ((r : Int) + 1) = (r : Int) + 1 := wrap_in (n := (r : Int) + 1) ⟨by omega, by omega⟩
  have hn1 := g.lo
  have HLE := Lib.hid (fun i j => D_mono g (Nat.le_succ r) i j)
  have HEQ := Lib.hid (fun (h : s ≤ r) i j (hi : i < n) (hj : j < n) => (show D ls (r + 1) i j = D ls r i j by
    have e1 := Stab.eq g hs.stab hi hj (r - s)
    have e2 := Stab.eq g hs.stab hi hj (r + 1 - s)
    rw [show s + (r - s) = r by omega] at e1
    rw [show s + (r + 1 - s) = r + 1 by omega] at e2
    rw [e1, e2]))
  have u0 : ((n : Int) != (n : Int)) = false := by simp
  clear hm hi g hs e1
  have FA := Lib.hid (fact_any w)
  unfold Law
  go_enter Try.func3, Try.ntmps3
  go_wp2_with fail
  refine FA.out.mono ?_; rintro e w1 ⟨rfl, hb1⟩
  clear FA
  go_wp2_with fail
  refine (SE.out w1 hb1).mono ?_; rintro e w2 ⟨rfl, hb2⟩
  have HB2 := Lib.hid (bcall hb1 hb2)
  clear SE hb1 hb2
  go_wp2_with fail
  refine (IN.out w2).mono ?_; rintro e w3 ⟨rfl, rfl⟩
  clear IN
  go_wp2_with fail
  refine (RA.out w3 HB2.out).mono ?_; rintro e w4 ⟨ba, rfl, hra, hb4⟩
  have HB4 := Lib.hid (bcall HB2.out hb4)
  clear RA HB2 hb4
  go_wp2_with fail
  refine (RB.out w4 HB4.out).mono ?_; rintro e w5 ⟨bb, rfl, hrb, hb5⟩
  have HB5 := Lib.hid (bcall HB4.out hb5)
  obtain ⟨A⟩ := tab_at (hra.below hb5) hn1
  obtain ⟨B⟩ := tab_at hrb hn1
  clear RB hra hrb hb5 HB4
  obtain ⟨ab, ao, ac, a2, ao2, hap, ahd, acl⟩ := A
  obtain ⟨bb2, bo, bc, b2, bo2, hbp, bhd, bcl⟩ := B
  injection hap with hap
  injection hap with e1 e2
  subst e1; subst e2
  injection hbp with hbp
  injection hbp with e1 e2
  subst e1; subst e2
  have AH := Lib.hid ahd
  have AC := Lib.hid acl
  have BH := Lib.hid bhd
  have BC := Lib.hid bcl
  clear ahd acl bhd bcl
  go_wp2_with fail
  go_loopw [14] (fun iv wr => ∃ i : Nat, i ≤ n ∧ iv = .int .i64 i ∧ Hid (Below w5.heap.size w5 wr)) (fun i _ => n - (intOf i).toNat)
  case atStart => exact ⟨0, Nat.zero_le _, rfl, Lib.hid (brefl _)⟩
  case round =>
    obtain ⟨i, hin, rfl, HQ⟩ := hrel
    have HWR := HQ
    by_cases hlt : i < n
    · have v0 : decide ((i : Int) < (n : Int)) = true := decide_eq_true (by omega)
      have v0' : (i : Int) < (n : Int) := by omega
      have h1 := AH.out wr HWR.out i hlt
      have h2 := BH.out wr HWR.out i hlt
      rw [Nat.zero_add] at h1 h2
      go_wp2_with fail
      clear h1 h2
      obtain ⟨w6, hw6⟩ : ∃ z, z = wr := ⟨wr, rfl⟩
      rw [← hw6] at HQ HWR ⊢
      clear hw6 wr
      go_loopw [15] (fun jv wr => ∃ j : Nat, j ≤ n ∧ jv = .int .i64 j ∧ Hid (Below w5.heap.size w5 wr)) (fun j _ => n - (intOf j).toNat)
      case atStart => exact ⟨0, Nat.zero_le _, rfl, HQ⟩
      case round =>
        obtain ⟨j, hjn, rfl, HQ2⟩ := hrel
        have HWR2 := HQ2
        clear HQ HWR
        by_cases hjl : j < n
        · have v1 : decide ((j : Int) < (n : Int)) = true := decide_eq_true (by omega)
          have v1' : (j : Int) < (n : Int) := by omega
          have h1 := AH.out wr HWR2.out i hlt
          have h2 := BH.out wr HWR2.out i hlt
          rw [Nat.zero_add] at h1 h2
          have c1 := AC.out wr HWR2.out i j hlt hjl
          have c2 := BC.out wr HWR2.out i j hlt hjl
          have hle := HLE.out i j
          have heq := fun h => HEQ.out h i j hlt hjl
          have HN := Lib.hid (fun q => bdrewN HQ2.out q)
          generalize D ls r i j = x at c1 hle heq
          generalize D ls (r + 1) i j = y at c2 hle heq
          have v2 : decide (y > x) = false := decide_eq_false (by omega)
          clear hle
          by_cases hsr : s ≤ r
          · obtain rfl : y = x := heq hsr
            have v3 : decide ((r : Int) ≥ (s : Int)) = true := decide_eq_true (by omega)
            have v4 : (y != y) = false := by simp
            clear heq
            go_wp2_with fail
            go_quiet (fail)
            go_wp2_with fail
            go_roundw
            case rel => exact ⟨j + 1, by omega, by first | rfl | go_num, Lib.hid (HN.out _)⟩
            case measure => simp [intOf]; omega
          · have v3 : decide ((r : Int) ≥ (s : Int)) = false := decide_eq_false (by omega)
            clear heq
            go_wp2_with fail
            go_quiet (fail)
            go_wp2_with fail
            go_roundw
            case rel => exact ⟨j + 1, by omega, by first | rfl | go_num, Lib.hid (HN.out _)⟩
            case measure => simp [intOf]; omega
        · obtain rfl : j = n := by omega
          have v1 : decide ((j : Int) < (j : Int)) = false := decide_eq_false (by omega)
          go_wp2_with fail
          go_roundw
          case rel => exact ⟨i + 1, by omega, by first | rfl | go_num, HQ2⟩
          case measure => simp [intOf]; omega
    · obtain rfl : i = n := by omega
      have v0 : decide ((i : Int) < (i : Int)) = false := decide_eq_false (by omega)
      have HBF := Lib.hid (bcall HB5.out HWR.out)
      go_wp2_with fail
      go_ret
      exact ⟨by first | rfl | simp, HBF.out⟩
theorem law_any (n : Int) (p : Option Addr) (m cap : Nat) (ls : List Lk) (r : Int) (w : World) (hm : m = ls.length) (hi : CI layL w p cap ls) : Law n p m cap r w := by
  obtain ⟨c, hc⟩ : ∃ c, code n ls = c := ⟨_, rfl⟩
  by_cases h0 : c = 0
  · rw [h0] at hc
    obtain ⟨k, rfl, g⟩ := good_of hc
    by_cases hr : 0 ≤ r ∧ r ≤ 19
    · obtain ⟨j, rfl⟩ : ∃ j : Nat, r = (j : Int) := ⟨r.toNat, by omega⟩
      exact law_good k p m cap ls j w hm hi g (by omega)
    · exact law_out k p m cap ls r w hm hi g hr
  · exact law_bad n p m cap ls r w hm hi c hc h0

theorem reads : Try.f3.params.toList.all (fun t => Try.prog.readableRec t && decide (t < Try.prog.types.size)) = true := by kernel_rfl

theorem contract (H : Type) (enc : TypeId × Value → H) (W : World) (base : Nat) (args : Array Value) (ds gs : List (DataW H)) (before : List MemPlace)
    (hval : ∀ (j : Nat) t v, Try.f3.params[j]? = some t → args[j]? = some v → Value.okWide Try.prog W .any base t v)
    (hW : DataW.Whole enc Try.prog Try.f3.params.toList Rows.vectorSettlesSpec.vars false W args.toList ds gs before) :
    Calls Try.prog 3 args W fun e W' => ∃ v, e = .returned v ∧ Rows.vectorSettlesSpec.post enc Try.prog Try.f3 false true false false W args v W' := by
  have hW' := hW
  obtain ⟨p, q, hA0, hV, rfl, hfz, hnd⟩ := hW
  have hA : DataW.TrodAll enc Try.prog W 0 (fun _ => true) true Try.f3.params.toList args.toList ds p := hA0
  have hlt := hA.lt
  rw [Try.params3] at hA hval
  obtain ⟨v0, vs0, d0, ds0, p0, q0, hargs, rfl, rfl, h0, r0⟩ := trodAll_cons hA
  obtain ⟨v1, vs1, d1, ds1, p1, q1, hvs1, rfl, rfl, h1, r1⟩ := trodAll_cons r0
  obtain ⟨v2, vs2, d2, ds2, p2, q2, hvs2, rfl, rfl, h2, r2⟩ := trodAll_cons r1
  obtain ⟨hvsn, rfl, rfl⟩ := trodAll_nil r2
  simp only [hvsn, hvs2, hvs1] at hargs
  obtain rfl : args = #[v0, v1, v2] := by cases args; simp_all
  obtain ⟨rfl, rfl⟩ := trodVars_none hV
  clear hA0
  obtain ⟨a0, rfl, rfl, rfl, w0⟩ := open_int Try.underlying3 (hval 0 3 v0 rfl rfl) h0
  have b0 := bounds_int w0
  obtain ⟨p1a, cap1, l1, rfl, i1, e1⟩ := Go.Proofs.Ythggfkdpggfkbaa.Vector.open_links (hval 1 22 v1 rfl rfl) h1 (fun x hx => hlt x (by simp [hx]))
  obtain ⟨a2, rfl, rfl, rfl, w2⟩ := open_int Try.underlying3 (hval 2 3 v2 rfl rfl) h2
  have b2 := bounds_int w2
  exact law_post 4 laid reads rfl Try.underlying4 rfl hW' ⟨rfl, rfl, rfl⟩ (law_any _ _ _ _ _ _ W rfl i1)

set_option maxRecDepth 100000 in
theorem lifted (os : Os) (started : os.Started) (H : Type) (enc : TypeId × Value → H) :
    ReturnsInHanded {} Try.checked os 3 .any (Rows.vectorSettlesSpec.pre6 enc Try.prog Try.f3 Rows.vectorSettlesRow.domain false) (Rows.vectorSettlesSpec.post enc Try.prog Try.f3 false true false false) := by
  refine returnsInHanded_of_change (C := Try.checked) own started (by kernel_rfl) Try.func3
    (ChangeSpec.witness6 (enc := enc) (C := Try.checked) false ⟨#[], #[.int .i64 0, .slice none 0 0, .int .i64 0], []⟩ 8 (by kernel_rfl) (by kernel_rfl) (by kernel_rfl) (by kernel_rfl)) ?_
  intro W base args ds gs before hval hW _ _
  exact contract H enc W base args ds gs before hval hW

theorem proved : Rows.VectorSettlesSaid :=
  OpenClaim.holds_of_wide 3 Try.f3 rfl rfl rfl rfl rfl rfl rfl ⟨rfl, rfl, rfl, rfl, rfl⟩ rfl rfl rfl rfl rfl (by kernel_rfl) Try.func3 (by kernel_rfl)
    (of_decide_eq_true (by kernel_rfl)) (by unfold Func.isWrapper; first | (rw [if_pos (by decide +kernel)]; kernel_rfl) | (rw [if_neg (by decide +kernel)]; exact ⟨rfl, rfl⟩))
    (fun os started H enc _ => lifted os started H enc)
end Go.Proofs.Ythggfkdpggfkbaa.VectorSettlesL
