/- SpfRound: shortest paths are as far as what neighbours tell each other comes to: for every input. No condition. -/
import Derived.Test.YthicejpgfmhimaaSpfFact
import Derived.Test.YthicejpgfmhimaaIn3
import Derived.BigQuiet
import Derived.Test.YthicejpgfmhimaaVecRounds
namespace Go.Proofs.Ythicejpgfmhimaa.SpfRoundL
open Go.ChangeShapes Go.WideShapes Go.ChangeAt Go.RowKit Go.Proofs.Ythicejpgfmhimaa.Kit Go.Proofs.Ythicejpgfmhimaa.App Go.Proofs.Ythicejpgfmhimaa.Cells Go.Proofs.Ythicejpgfmhimaa.Err Go.Proofs.Ythicejpgfmhimaa.Vector Go.Proofs.Ythicejpgfmhimaa.Spf
set_option linter.unusedVariables false
set_option maxRecDepth 20000
set_option maxHeartbeats 2000000
abbrev Law (n : Int) (p : Option Addr) (m cap : Nat) (s : Int) (w : World) : Prop := Calls Try.prog 5 #[.int .i64 n, .slice p m cap, .int .i64 s] w fun e w' => e = .returned (.bool true) ∧ Below w.heap.size w w'
theorem law_good (n s : Nat) (p : Option Addr) (m cap : Nat) (ls : List Lk) (w : World) (hm : m = ls.length) (hi : CI layL w p cap ls) (g : Vector.Good n ls) (hs : s < n) : Law n p m cap s w := by
  have hlm := hi.len_le
  rw [← hm] at hlm
  have FR := Lib.hid (fun W (hW : Below w.heap.size w W) => from_good n s p cap m ls W hm (hi.below hW) g hs)
  have RO := Lib.hid (fun W (hW : Below w.heap.size w W) => rounds_good n 8 p cap m ls W g hm (hi.below hW) (by decide))
  rw [show ((8 : Nat) : Int) = 8 from rfl] at RO
  have hn8 := g.up
  have hw1 : IntKind.i64.wrap ((n : Int) - 1) = (n : Int) - 1 := wrap_in (n := (n : Int) - 1) ⟨by omega, by omega⟩
  have IN := Lib.hid (fun W => Drr.in_any (s : Int) 0 ((n : Int) - 1) W true (in_true ⟨by omega, by omega⟩))
  have u0 : ((n : Int) == (n : Int)) = true := by simp
  have hs' : (s : Int) < (n : Int) := by omega
  clear hm hi g
  have FA := Lib.hid (Spf.fact_any w)
  unfold Law
  go_enter Try.func5, Try.ntmps5
  go_wp2_with fail
  refine FA.out.mono ?_; rintro e w1 ⟨rfl, hb1⟩
  have HB1 := Lib.hid hb1
  clear FA hb1
  go_wp2_with fail
  refine (FR.out w1 HB1.out).mono ?_; rintro e w2 ⟨u, v, rfl, hu, hv, hb⟩
  have HB2 := Lib.hid (bcall HB1.out hb)
  obtain ⟨pu, cu, rfl, iu⟩ := hu
  obtain ⟨pv, cv, rfl, iv⟩ := hv
  have IU := Lib.hid iu
  rw [rw1_len, rw1_len]
  clear FR HB1 hb iu iv
  go_wp2_with fail
  refine (RO.out w2 HB2.out).mono ?_; rintro e w3 ⟨b, rfl, hr, hb⟩
  have HB3 := Lib.hid (bcall HB2.out hb)
  have IU3 := Lib.hid (IU.out.below hb)
  obtain ⟨b2, off, e2, hlt, hrow⟩ := hr.2.2 (by rw [rows_len]; omega)
  injection e2 with e2
  injection e2 with e3 e4
  subst e3; subst e4
  obtain ⟨q, cq, hc, iq⟩ := hrow s (by rw [rows_len]; omega)
  rw [rows_get _ _ hs] at hc iq
  rw [rw1_len, Nat.zero_add] at hc
  have SM := Lib.hid (ints_any q pu cq cu n n (rw1 n (D ls 8 s)) (rw1 n (ds ls s)) w3 (by rw [rw1_len]) (by rw [rw1_len]) iq IU3.out true (by simp))
  clear RO HB2 hb hr hrow iq IU hlt
  go_wp2_with (first
    | (go_at_call 10; refine (IN.out w3).mono ?_; rintro e w4 ⟨rfl, hw4⟩; rw [hw4]; clear hw4)
    | (go_at_call 14; refine SM.out.mono ?_; rintro e w5 ⟨rfl, hb5⟩
       have HB5 := Lib.hid (bcall HB3.out hb5)
       clear hb5))
  go_ret
  exact ⟨by first | rfl | simp, HB5.out⟩
theorem law_bad (n s : Int) (p : Option Addr) (m cap : Nat) (ls : List Lk) (w : World) (hm : m = ls.length) (hi : CI layL w p cap ls) (hs : (Lit.int .i64 s).wf = true) (c : Int) (hc : wrong n ls [s] = c) (h0 : c ≠ 0) (hc1 : code n ls ≠ 0) : Law n p m cap s w := by
  have hlm := hi.len_le
  rw [← hm] at hlm
  have FR := Lib.hid (fun W (hW : Below w.heap.size w W) => from_bad n s p cap m ls W hm (hi.below hW) hs c hc h0)
  have h2 : code2 n ls 8 = code n ls := by
    unfold code2
    rw [if_neg hc1]
  have RO := Lib.hid (fun W (hW : Below w.heap.size w W) => rounds_bad n 8 p cap m ls W hm (hi.below hW) (code n ls) h2 hc1)
  rw [er_ne h0] at FR
  rw [er_ne hc1] at RO
  generalize code n ls = d at RO hc1
  clear hm hi hs hc h0 hc1 h2
  have FA := Lib.hid (Spf.fact_any w)
  unfold Law
  go_enter Try.func5, Try.ntmps5
  go_wp2_with fail
  refine FA.out.mono ?_; rintro e w1 ⟨rfl, hb1⟩
  have HB1 := Lib.hid hb1
  clear FA hb1
  go_wp2_with fail
  refine (FR.out w1 HB1.out).mono ?_; rintro e w2 ⟨rfl, hb⟩
  have HB2 := Lib.hid (bcall HB1.out hb)
  clear FR HB1 hb
  go_wp2_with fail
  refine (RO.out w2 HB2.out).mono ?_; rintro e w3 ⟨rfl, hb⟩
  have HB3 := Lib.hid (bcall HB2.out hb)
  clear RO HB2 hb
  go_wp2_with fail
  go_ret
  exact ⟨by first | rfl | simp, HB3.out⟩
theorem law_out (n : Nat) (s : Int) (p : Option Addr) (m cap : Nat) (ls : List Lk) (w : World) (hm : m = ls.length) (hi : CI layL w p cap ls) (hs : (Lit.int .i64 s).wf = true) (g : Vector.Good n ls) (hso : ¬ (0 ≤ s ∧ s ≤ (n : Int) - 1)) : Law n p m cap s w := by
  have hlm := hi.len_le
  rw [← hm] at hlm
  have hwr : wrong (n : Int) ls [s] = 1 := by
    unfold wrong
    rw [if_pos (code_good g)]
    unfold outs
    rw [if_pos (by omega)]
  have FR := Lib.hid (fun W (hW : Below w.heap.size w W) => from_bad (n : Int) s p cap m ls W hm (hi.below hW) hs 1 hwr (by decide))
  have RO := Lib.hid (fun W (hW : Below w.heap.size w W) => rounds_good n 8 p cap m ls W g hm (hi.below hW) (by decide))
  rw [show ((8 : Nat) : Int) = 8 from rfl] at RO
  have hn8 := g.up
  have hw1 : IntKind.i64.wrap ((n : Int) - 1) = (n : Int) - 1 := wrap_in (n := (n : Int) - 1) ⟨by omega, by omega⟩
  have IN := Lib.hid (fun W => Drr.in_any s 0 ((n : Int) - 1) W false (in_false hso))
  rw [er_1] at FR
  clear hm hi hs hwr g hso
  have FA := Lib.hid (Spf.fact_any w)
  unfold Law
  go_enter Try.func5, Try.ntmps5
  go_wp2_with fail
  refine FA.out.mono ?_; rintro e w1 ⟨rfl, hb1⟩
  have HB1 := Lib.hid hb1
  clear FA hb1
  go_wp2_with fail
  refine (FR.out w1 HB1.out).mono ?_; rintro e w2 ⟨rfl, hb⟩
  have HB2 := Lib.hid (bcall HB1.out hb)
  clear FR HB1 hb
  go_wp2_with fail
  refine (RO.out w2 HB2.out).mono ?_; rintro e w3 ⟨b, rfl, hr, hb⟩
  have HB3 := Lib.hid (bcall HB2.out hb)
  clear RO HB2 hb hr
  go_wp2_with (first
    | (go_at_call 10; refine (IN.out w3).mono ?_; rintro e w4 ⟨rfl, hw4⟩; rw [hw4]; clear hw4))
  go_ret
  exact ⟨by first | rfl | simp, HB3.out⟩
theorem law_any (n s : Int) (p : Option Addr) (m cap : Nat) (ls : List Lk) (w : World) (hm : m = ls.length) (hi : CI layL w p cap ls) (hs : (Lit.int .i64 s).wf = true) : Law n p m cap s w := by
  by_cases hc : code n ls = 0
  · obtain ⟨N, rfl, g⟩ := good_of hc
    by_cases h : 0 ≤ s ∧ s ≤ (N : Int) - 1
    · obtain ⟨S, rfl⟩ : ∃ S : Nat, s = (S : Int) := ⟨s.toNat, by omega⟩
      exact law_good N S p m cap ls w hm hi g (by omega)
    · exact law_out N s p m cap ls w hm hi hs g h
  · refine law_bad n s p m cap ls w hm hi hs _ rfl ?_ hc
    unfold wrong
    rw [if_neg hc]; exact hc

theorem reads : Try.f5.params.toList.all (fun t => Try.prog.readableRec t && decide (t < Try.prog.types.size)) = true := by kernel_rfl

theorem contract (H : Type) (enc : TypeId × Value → H) (W : World) (base : Nat) (args : Array Value) (ds gs : List (DataW H)) (before : List MemPlace)
    (hval : ∀ (j : Nat) t v, Try.f5.params[j]? = some t → args[j]? = some v → Value.okWide Try.prog W .any base t v)
    (hW : DataW.Whole enc Try.prog Try.f5.params.toList Rows.spfRoundSpec.vars false W args.toList ds gs before) :
    Calls Try.prog 5 args W fun e W' => ∃ v, e = .returned v ∧ Rows.spfRoundSpec.post enc Try.prog Try.f5 false true false false W args v W' := by
  have hW' := hW
  obtain ⟨p, q, hA0, hV, rfl, hfz, hnd⟩ := hW
  have hA : DataW.TrodAll enc Try.prog W 0 (fun _ => true) true Try.f5.params.toList args.toList ds p := hA0
  have hlt := hA.lt
  rw [Try.params5] at hA hval
  obtain ⟨v0, vs0, d0, ds0, p0, q0, hargs, rfl, rfl, h0, r0⟩ := trodAll_cons hA
  obtain ⟨v1, vs1, d1, ds1, p1, q1, hvs1, rfl, rfl, h1, r1⟩ := trodAll_cons r0
  obtain ⟨v2, vs2, d2, ds2, p2, q2, hvs2, rfl, rfl, h2, r2⟩ := trodAll_cons r1
  obtain ⟨hvsn, rfl, rfl⟩ := trodAll_nil r2
  simp only [hvsn, hvs2, hvs1] at hargs
  obtain rfl : args = #[v0, v1, v2] := by cases args; simp_all
  obtain ⟨rfl, rfl⟩ := trodVars_none hV
  clear hA0
  obtain ⟨a0, rfl, rfl, rfl, w0⟩ := open_int Try.underlying3 (hval 0 3 v0 rfl rfl) h0
  have b0 := bounds_int w0
  obtain ⟨p1a, cap1, l1, rfl, i1, e1⟩ := Go.Proofs.Ythicejpgfmhimaa.Vector.open_links (hval 1 22 v1 rfl rfl) h1 (fun x hx => hlt x (by simp [hx]))
  obtain ⟨a2, rfl, rfl, rfl, w2⟩ := open_int Try.underlying3 (hval 2 3 v2 rfl rfl) h2
  have b2 := bounds_int w2
  exact law_post 4 laid reads rfl Try.underlying4 rfl hW' ⟨rfl, rfl, rfl⟩ (law_any a0 a2 p1a _ cap1 l1 W rfl i1 w2)

set_option maxRecDepth 100000 in
theorem lifted (os : Os) (started : os.Started) (H : Type) (enc : TypeId × Value → H) :
    ReturnsInHanded {} Try.checked os 5 .any (Rows.spfRoundSpec.pre6 enc Try.prog Try.f5 Rows.spfRoundRow.domain false) (Rows.spfRoundSpec.post enc Try.prog Try.f5 false true false false) := by
  refine returnsInHanded_of_change (C := Try.checked) own started (by kernel_rfl) Try.func5
    (ChangeSpec.witness6 (enc := enc) (C := Try.checked) false ⟨#[], #[.int .i64 0, .slice none 0 0, .int .i64 0], []⟩ 8 (by kernel_rfl) (by kernel_rfl) (by kernel_rfl) (by kernel_rfl)) ?_
  intro W base args ds gs before hval hW _ _
  exact contract H enc W base args ds gs before hval hW

theorem proved : Rows.SpfRoundSaid :=
  OpenClaim.holds_of_wide 5 Try.f5 rfl rfl rfl rfl rfl rfl rfl ⟨rfl, rfl, rfl, rfl, rfl⟩ rfl rfl rfl rfl rfl (by kernel_rfl) Try.func5 (by kernel_rfl)
    (of_decide_eq_true (by kernel_rfl)) (by unfold Func.isWrapper; first | (rw [if_pos (by decide +kernel)]; kernel_rfl) | (rw [if_neg (by decide +kernel)]; exact ⟨rfl, rfl⟩))
    (fun os started H enc _ => lifted os started H enc)
end Go.Proofs.Ythicejpgfmhimaa.SpfRoundL
