/- StpCut: without a link that the tree does not go over it is the same tree: for every input. No condition. -/
import Derived.Test.YthjhlemdmahlnaaStpFact
import Derived.Test.YthjhlemdmahlnaaStpMore
import Derived.Test.YthjhlemdmahlnaaIn3
import Derived.BigQuiet
import Derived.Test.YthjhlemdmahlnaaStpUse
import Derived.Test.YthjhlemdmahlnaaLinkCut
namespace Go.Proofs.Ythjhlemdmahlnaa.StpCutL
open Go.ChangeShapes Go.WideShapes Go.ChangeAt Go.RowKit Go.Proofs.Ythjhlemdmahlnaa.Kit Go.Proofs.Ythjhlemdmahlnaa.App Go.Proofs.Ythjhlemdmahlnaa.Cells Go.Proofs.Ythjhlemdmahlnaa.Err Go.Proofs.Ythjhlemdmahlnaa.Vector Go.Proofs.Ythjhlemdmahlnaa.Spf Go.Proofs.Ythjhlemdmahlnaa.Stp Go.Proofs.Ythjhlemdmahlnaa.Truth
set_option linter.unusedVariables false
set_option maxRecDepth 20000
set_option maxHeartbeats 2000000
abbrev Law (n : Int) (p : Option Addr) (m cap : Nat) (k : Int) (w : World) : Prop := Calls Try.prog 5 #[.int .i64 n, .slice p m cap, .int .i64 k] w fun e w' => e = .returned (.bool true) ∧ Below w.heap.size w w'
theorem law_bad (n k : Int) (p : Option Addr) (m cap : Nat) (ls : List Lk) (w : World) (hm : m = ls.length) (hi : CI layL w p cap ls) (c : Int) (hc : code n ls = c) (h0 : c ≠ 0) : Law n p m cap k w := by
  have hlm := hi.len_le
  rw [← hm] at hlm
  have TB := Lib.hid (fun W (hW : Below w.heap.size w W) => tree_bad n p cap m ls W hm (hi.below hW) c hc h0)
  have UB := Lib.hid (fun W (hW : Below w.heap.size w W) => used_bad n p cap m ls W hm (hi.below hW) c hc h0)
  rw [er_ne h0] at TB UB
  clear hm hi hc h0
  have FA := Lib.hid (Stp.fact_any w)
  unfold Law
  go_enter Try.func5, Try.ntmps5
  go_wp2_with fail
  refine FA.out.mono ?_; rintro e w1 ⟨rfl, hb1⟩
  have HB1 := Lib.hid hb1
  clear FA hb1
  go_wp2_with fail
  refine (TB.out w1 HB1.out).mono ?_; rintro e w2 ⟨rfl, hb⟩
  have HB2 := Lib.hid (bcall HB1.out hb)
  clear TB HB1 hb
  go_wp2_with fail
  refine (UB.out w2 HB2.out).mono ?_; rintro e w3 ⟨rfl, hb⟩
  have HB3 := Lib.hid (bcall HB2.out hb)
  clear UB HB2 hb
  go_wp2_with fail
  go_ret
  exact ⟨by first | rfl | simp, HB3.out⟩
theorem law_out (n : Nat) (k : Int) (p : Option Addr) (m cap : Nat) (ls : List Lk) (w : World) (hm : m = ls.length) (hi : CI layL w p cap ls) (g : Vector.Good n ls) (hk : ¬ (0 ≤ k ∧ k ≤ (m : Int) - 1)) : Law n p m cap k w := by
  have hn8 := g.up
  have hn1 := g.lo
  have hm32 : m ≤ 32 := by rw [hm]; exact g.len
  have hlm := hi.len_le
  rw [← hm] at hlm
  have TR := Lib.hid (fun W (hW : Below w.heap.size w W) => tree_good n p cap m ls W hm (hi.below hW) g)
  have UR := Lib.hid (fun W (hW : Below w.heap.size w W) => used_good n p cap m ls W hm (hi.below hW) g)
  have hw1 : IntKind.i64.wrap ((m : Int) - 1) = (m : Int) - 1 := wrap_in (n := (m : Int) - 1) ⟨by omega, by omega⟩
  have u0 : ((m : Int) != (m : Int)) = false := by simp
  have IN := Lib.hid (fun W => Drr.in_any k 0 ((m : Int) - 1) W false (in_false hk))
  clear hm hi g hk
  have FA := Lib.hid (Stp.fact_any w)
  unfold Law
  go_enter Try.func5, Try.ntmps5
  go_wp2_with fail
  refine FA.out.mono ?_; rintro e w1 ⟨rfl, hb1⟩
  have HB1 := Lib.hid hb1
  clear FA hb1
  go_wp2_with fail
  refine (TR.out w1 HB1.out).mono ?_; rintro e w2 ⟨u, v, x, rfl, ht⟩
  have HB2 := Lib.hid (bcall HB1.out ht.bel)
  obtain ⟨pu, cu, rfl, iu⟩ := ht.o1.form
  obtain ⟨pv, cv, rfl, iv⟩ := ht.o2.form
  obtain ⟨px, cx, rfl, ix⟩ := ht.o3.form
  rw [rw1_len, rw1_len, rw1_len]
  have IU2 := Lib.hid iu
  have IV2 := Lib.hid iv
  have IX2 := Lib.hid ix
  clear TR HB1 ht iu iv ix
  go_wp2_with fail
  refine (UR.out w2 HB2.out).mono ?_; rintro e w3 ⟨t, rfl, ho, hb⟩
  have HB3 := Lib.hid (bcall HB2.out hb)
  have IU := Lib.hid (IU2.out.below hb)
  have IV := Lib.hid (IV2.out.below hb)
  have IX := Lib.hid (IX2.out.below hb)
  obtain ⟨pt, ct, rfl, it⟩ := ho.form
  rw [bl_len]
  have IT := Lib.hid it
  clear UR HB2 hb ho it IU2 IV2 IX2
  go_wp2_with fail
  refine (IN.out w3).mono ?_; rintro e w4 ⟨rfl, hw4⟩
  rw [hw4]
  clear hw4 w4 IN IU IV IX IT
  go_wp2_with fail
  go_ret
  exact ⟨by first | rfl | simp, HB3.out⟩
theorem law_used (n k : Nat) (p : Option Addr) (m cap : Nat) (ls : List Lk) (w : World) (hm : m = ls.length) (hi : CI layL w p cap ls) (g : Vector.Good n ls) (hk : k < m) (hu : us ls n k = true) : Law n p m cap k w := by
  have hn8 := g.up
  have hn1 := g.lo
  have hm32 : m ≤ 32 := by rw [hm]; exact g.len
  have hlm := hi.len_le
  rw [← hm] at hlm
  have TR := Lib.hid (fun W (hW : Below w.heap.size w W) => tree_good n p cap m ls W hm (hi.below hW) g)
  have UR := Lib.hid (fun W (hW : Below w.heap.size w W) => used_good n p cap m ls W hm (hi.below hW) g)
  have hw1 : IntKind.i64.wrap ((m : Int) - 1) = (m : Int) - 1 := wrap_in (n := (m : Int) - 1) ⟨by omega, by omega⟩
  have u0 : ((m : Int) != (m : Int)) = false := by simp
  have IN := Lib.hid (fun W => Drr.in_any (k : Int) 0 ((m : Int) - 1) W true (in_true ⟨by omega, by omega⟩))
  have HU := Lib.hid (show (bl m (us ls n))[k]? = some true by rw [bl_get hk, hu])
  have hk' : (k : Int) < (m : Int) := by omega
  have hm0 : 0 < (bl m (us ls n)).length := by rw [bl_len]; omega
  clear hm hi g hu
  have FA := Lib.hid (Stp.fact_any w)
  unfold Law
  go_enter Try.func5, Try.ntmps5
  go_wp2_with fail
  refine FA.out.mono ?_; rintro e w1 ⟨rfl, hb1⟩
  have HB1 := Lib.hid hb1
  clear FA hb1
  go_wp2_with fail
  refine (TR.out w1 HB1.out).mono ?_; rintro e w2 ⟨u, v, x, rfl, ht⟩
  have HB2 := Lib.hid (bcall HB1.out ht.bel)
  obtain ⟨pu, cu, rfl, iu⟩ := ht.o1.form
  obtain ⟨pv, cv, rfl, iv⟩ := ht.o2.form
  obtain ⟨px, cx, rfl, ix⟩ := ht.o3.form
  rw [rw1_len, rw1_len, rw1_len]
  have IU2 := Lib.hid iu
  have IV2 := Lib.hid iv
  have IX2 := Lib.hid ix
  clear TR HB1 ht iu iv ix
  go_wp2_with fail
  refine (UR.out w2 HB2.out).mono ?_; rintro e w3 ⟨t, rfl, ho, hb⟩
  have HB3 := Lib.hid (bcall HB2.out hb)
  have IU := Lib.hid (IU2.out.below hb)
  have IV := Lib.hid (IV2.out.below hb)
  have IX := Lib.hid (IX2.out.below hb)
  obtain ⟨pt, ct, rfl, it⟩ := ho.form
  rw [bl_len]
  have IT := Lib.hid it
  clear UR HB2 hb ho it IU2 IV2 IX2
  go_wp2_with fail
  refine (IN.out w3).mono ?_; rintro e w4 ⟨rfl, hw4⟩
  rw [hw4]
  clear hw4 w4 IN IU IV IX
  obtain ⟨bt, ot, rfl, _, hat⟩ := IT.out.at hm0
  have ck := hat w3 (brefl _) k true HU.out
  clear IT hat
  go_wp2_with fail
  go_ret
  exact ⟨by first | rfl | simp, HB3.out⟩
theorem law_good (n k : Nat) (p : Option Addr) (m cap : Nat) (ls : List Lk) (w : World) (hm : m = ls.length) (hi : CI layL w p cap ls) (g : Vector.Good n ls) (hk : k < m) (hu : us ls n k = false) : Law n p m cap k w := by
  have hn8 := g.up
  have hn1 := g.lo
  have hm32 : m ≤ 32 := by rw [hm]; exact g.len
  have hlm := hi.len_le
  rw [← hm] at hlm
  have TR := Lib.hid (fun W (hW : Below w.heap.size w W) => tree_good n p cap m ls W hm (hi.below hW) g)
  have UR := Lib.hid (fun W (hW : Below w.heap.size w W) => used_good n p cap m ls W hm (hi.below hW) g)
  have hw1 : IntKind.i64.wrap ((m : Int) - 1) = (m : Int) - 1 := wrap_in (n := (m : Int) - 1) ⟨by omega, by omega⟩
  have u0 : ((m : Int) != (m : Int)) = false := by simp
  have IN := Lib.hid (fun W => Drr.in_any (k : Int) 0 ((m : Int) - 1) W true (in_true ⟨by omega, by omega⟩))
  have HU := Lib.hid (show (bl m (us ls n))[k]? = some false by rw [bl_get hk, hu])
  have hk' : (k : Int) < (m : Int) := by omega
  have hm0 : 0 < (bl m (us ls n)).length := by rw [bl_len]; omega
  have hkl : k < ls.length := by omega
  have hw2 : IntKind.i64.wrap ((k : Int) + 1) = (k : Int) + 1 := wrap_in (n := (k : Int) + 1) ⟨by omega, by omega⟩
  obtain ⟨p1, c1, s1, s2, hc1⟩ := head_of hi hm k (by omega)
  obtain ⟨p2, c2, t1, t2, hc2⟩ := tail_of hi hm (k + 1) (by omega) ((k : Int) + 1) (by omega) (m - (k + 1)) rfl
  have H1 := Lib.hid hc1
  have H2 := Lib.hid hc2
  have L1 := Lib.hid (show k = (ls.take k).length by rw [List.length_take]; omega)
  have L2 := Lib.hid (show m - (k + 1) = (ls.drop (k + 1)).length by rw [List.length_drop, ← hm])
  have L3 := Lib.hid (show k + (m - (k + 1)) = (gone ls k).length by have := gone_len hkl; omega)
  have KP := gone_keeps g hu
  have G2 := gone_good g hkl
  have TG := Lib.hid (fun W q cq (hq : CI layL W q cq (gone ls k)) => tree_good n q cq (k + (m - (k + 1))) (gone ls k) W (by have := gone_len hkl; omega) hq G2)
  rw [show rw1 n (rtI (gone ls k)) = rw1 n (rtI ls) from rw1_congr fun i hi => by unfold rtI; rw [KP.rt g G2 hi], show rw1 n (fr (gone ls k)) = rw1 n (fr ls) from rw1_congr fun i hi => KP.fr g G2 hi, show rw1 n (ov (gone ls k)) = rw1 n (ov ls) from rw1_congr fun i hi => KP.ov g G2 hi] at TG
  clear hc1 hc2 hm hi g hu KP G2 hkl
  have hr32 : m - (k + 1) ≤ 32 := by omega
  generalize m - (k + 1) = r at *
  have FA := Lib.hid (Stp.fact_any w)
  unfold Law
  go_enter Try.func5, Try.ntmps5
  go_wp2_with fail
  refine FA.out.mono ?_; rintro e w1 ⟨rfl, hb1⟩
  have HB1 := Lib.hid hb1
  clear FA hb1
  go_wp2_with fail
  refine (TR.out w1 HB1.out).mono ?_; rintro e w2 ⟨u, v, x, rfl, ht⟩
  have HB2 := Lib.hid (bcall HB1.out ht.bel)
  obtain ⟨pu, cu, rfl, iu⟩ := ht.o1.form
  obtain ⟨pv, cv, rfl, iv⟩ := ht.o2.form
  obtain ⟨px, cx, rfl, ix⟩ := ht.o3.form
  rw [rw1_len, rw1_len, rw1_len]
  have IU2 := Lib.hid iu
  have IV2 := Lib.hid iv
  have IX2 := Lib.hid ix
  clear TR HB1 ht iu iv ix
  go_wp2_with fail
  refine (UR.out w2 HB2.out).mono ?_; rintro e w3 ⟨t, rfl, ho, hb⟩
  have HB3 := Lib.hid (bcall HB2.out hb)
  have IU := Lib.hid (IU2.out.below hb)
  have IV := Lib.hid (IV2.out.below hb)
  have IX := Lib.hid (IX2.out.below hb)
  obtain ⟨pt, ct, rfl, it⟩ := ho.form
  rw [bl_len]
  have IT := Lib.hid it
  clear UR HB2 hb ho it IU2 IV2 IX2
  go_wp2_with fail
  refine (IN.out w3).mono ?_; rintro e w4 ⟨rfl, hw4⟩
  rw [hw4]
  clear hw4 w4 IN
  obtain ⟨bt, ot, rfl, _, hat⟩ := IT.out.at hm0
  have ck := hat w3 (brefl _) k false HU.out
  clear IT hat
  go_wp2_with (first
    | (at_builtin
       refine wp_appC tyL rfl (.tmp 67) (.tmp 70) rfl w3.heap.size (.slice none 0 0) [] p1 c1 k (ls.take k) rfl (OC.nil _ _ _ _) rfl L1.out (H1.out w3 HB3.out) (by have := L1.out; simp; omega) (Nat.le_refl _) ?_
       intro v5 w5 hown5 hg5 hat5
       have HO5 := Lib.hid (show OC layL 33 w5 w3.heap.size v5 (ls.take k) from by simpa using hown5)
       have HB5 := Lib.hid (show Below w3.heap.size w3 w5 from below_appC (brefl w3) (OC.nil layL 33 w3 w3.heap.size) hg5 (Nat.le_refl _))
       have HI5 := Lib.hid (H2.out w5 (bcall HB3.out HB5.out))
       obtain ⟨p5, c5, hv5, hi5⟩ := HO5.out.form
       rw [← L1.out] at hv5
       subst hv5
       clear hown5 hg5 hat5 hi5)
    | (at_builtin
       refine wp_appC tyL rfl (.tmp 72) (.tmp 76) rfl w3.heap.size _ (ls.take k) p2 c2 r (ls.drop (k + 1)) rfl HO5.out rfl L2.out HI5.out (by have := L1.out; have := L2.out; omega) HB5.out.size ?_
       intro v6 w6 hown6 hg6 hat6
       have HO6 := Lib.hid (show OC layL 33 w6 w3.heap.size v6 (gone ls k) from hown6)
       have HB6 := Lib.hid (show Below w3.heap.size w3 w6 from below_appC HB5.out HO5.out hg6 HB5.out.size)
       clear hown6 hg6 hat6 HO5 HB5 HI5
       obtain ⟨p6, c6, hv6, hi6⟩ := HO6.out.form
       rw [← L3.out] at hv6
       subst hv6
       have HI6 := Lib.hid hi6
       clear hi6 HO6))
  refine (TG.out w6 p6 c6 HI6.out).mono ?_; rintro e w7 ⟨u2, v2, x2, rfl, ht⟩
  have HB7 := Lib.hid (bcall (bcall HB3.out HB6.out) ht.bel)
  have JU := Lib.hid ((IU.out.below HB6.out).below ht.bel)
  have JV := Lib.hid ((IV.out.below HB6.out).below ht.bel)
  have JX := Lib.hid ((IX.out.below HB6.out).below ht.bel)
  obtain ⟨pu2, cu2, rfl, iu⟩ := ht.o1.form
  obtain ⟨pv2, cv2, rfl, iv⟩ := ht.o2.form
  obtain ⟨px2, cx2, rfl, ix⟩ := ht.o3.form
  rw [rw1_len, rw1_len, rw1_len]
  have KU := Lib.hid iu
  have KV := Lib.hid iv
  have KX := Lib.hid ix
  clear ht iu iv ix TG HB6 HI6 IU IV IX H1 H2 s1 s2 t1 t2 L1 L2 L3 ck
  have S1 := Lib.hid (ints_any pu2 pu cu2 cu n n (rw1 n (rtI ls)) (rw1 n (rtI ls)) w7 (rw1_len _ _).symm (rw1_len _ _).symm KU.out JU.out true (by simp))
  have S2 := Lib.hid (fun W (hW : Below w7.heap.size w7 W) => ints_any pv2 pv cv2 cv n n (rw1 n (fr ls)) (rw1 n (fr ls)) W (rw1_len _ _).symm (rw1_len _ _).symm (KV.out.below hW) (JV.out.below hW) true (by simp))
  have S3 := Lib.hid (fun W (hW : Below w7.heap.size w7 W) => ints_any px2 px cx2 cx n n (rw1 n (ov ls)) (rw1 n (ov ls)) W (rw1_len _ _).symm (rw1_len _ _).symm (KX.out.below hW) (JX.out.below hW) true (by simp))
  clear KU JU KV JV KX JX
  go_wp2_with fail
  refine S1.out.mono ?_; rintro e w8 ⟨rfl, hb8⟩
  have HB78 := Lib.hid hb8
  have HB8 := Lib.hid (bcall HB7.out hb8)
  clear hb8 S1
  go_wp2_with fail
  refine (S2.out w8 HB78.out).mono ?_; rintro e w9 ⟨rfl, hb9⟩
  have HB79 := Lib.hid (bcall HB78.out hb9)
  have HB9 := Lib.hid (bcall HB8.out hb9)
  clear hb9 S2
  go_wp2_with fail
  refine (S3.out w9 HB79.out).mono ?_; rintro e w10 ⟨rfl, hb10⟩
  have HB10 := Lib.hid (bcall HB9.out hb10)
  clear hb10 S3
  go_wp2_with fail
  go_ret
  exact ⟨by first | rfl | simp, HB10.out⟩
theorem law_any (n k : Int) (p : Option Addr) (m cap : Nat) (ls : List Lk) (w : World) (hm : m = ls.length) (hi : CI layL w p cap ls) : Law n p m cap k w := by
  by_cases h : code n ls = 0
  · obtain ⟨N, rfl, g⟩ := good_of h
    by_cases hk : 0 ≤ k ∧ k ≤ (m : Int) - 1
    · obtain ⟨K, rfl⟩ : ∃ K : Nat, k = (K : Int) := ⟨k.toNat, by omega⟩
      cases hu : us ls N K with
      | true => exact law_used N K p m cap ls w hm hi g (by omega) hu
      | false => exact law_good N K p m cap ls w hm hi g (by omega) hu
    · exact law_out N k p m cap ls w hm hi g hk
  · exact law_bad n k p m cap ls w hm hi _ rfl h

theorem reads : Try.f5.params.toList.all (fun t => Try.prog.readableRec t && decide (t < Try.prog.types.size)) = true := by kernel_rfl

theorem contract (H : Type) (enc : TypeId × Value → H) (W : World) (base : Nat) (args : Array Value) (ds gs : List (DataW H)) (before : List MemPlace)
    (hval : ∀ (j : Nat) t v, Try.f5.params[j]? = some t → args[j]? = some v → Value.okWide Try.prog W .any base t v)
    (hW : DataW.Whole enc Try.prog Try.f5.params.toList Rows.stpCutSpec.vars false W args.toList ds gs before) :
    Calls Try.prog 5 args W fun e W' => ∃ v, e = .returned v ∧ Rows.stpCutSpec.post enc Try.prog Try.f5 false true false false W args v W' := by
  have hW' := hW
  obtain ⟨p, q, hA0, hV, rfl, hfz, hnd⟩ := hW
  have hA : DataW.TrodAll enc Try.prog W 0 (fun _ => true) true Try.f5.params.toList args.toList ds p := hA0
  have hlt := hA.lt
  rw [Try.params5] at hA hval
  obtain ⟨v0, vs0, d0, ds0, p0, q0, hargs, rfl, rfl, h0, r0⟩ := trodAll_cons hA
  obtain ⟨v1, vs1, d1, ds1, p1, q1, hvs1, rfl, rfl, h1, r1⟩ := trodAll_cons r0
  obtain ⟨v2, vs2, d2, ds2, p2, q2, hvs2, rfl, rfl, h2, r2⟩ := trodAll_cons r1
  obtain ⟨hvsn, rfl, rfl⟩ := trodAll_nil r2
  simp only [hvsn, hvs2, hvs1] at hargs
  obtain rfl : args = #[v0, v1, v2] := by cases args; simp_all
  obtain ⟨rfl, rfl⟩ := trodVars_none hV
  clear hA0
  obtain ⟨a0, rfl, rfl, rfl, w0⟩ := open_int Try.underlying3 (hval 0 3 v0 rfl rfl) h0
  have b0 := bounds_int w0
  obtain ⟨p1a, cap1, l1, rfl, i1, e1⟩ := Go.Proofs.Ythjhlemdmahlnaa.Vector.open_links (hval 1 22 v1 rfl rfl) h1 (fun x hx => hlt x (by simp [hx]))
  obtain ⟨a2, rfl, rfl, rfl, w2⟩ := open_int Try.underlying3 (hval 2 3 v2 rfl rfl) h2
  have b2 := bounds_int w2
  exact law_post 4 laid reads rfl Try.underlying4 rfl hW' ⟨rfl, rfl, rfl⟩ (law_any a0 a2 p1a _ cap1 l1 W rfl i1)

set_option maxRecDepth 100000 in
theorem lifted (os : Os) (started : os.Started) (H : Type) (enc : TypeId × Value → H) :
    ReturnsInHanded {} Try.checked os 5 .any (Rows.stpCutSpec.pre6 enc Try.prog Try.f5 Rows.stpCutRow.domain false) (Rows.stpCutSpec.post enc Try.prog Try.f5 false true false false) := by
  refine returnsInHanded_of_change (C := Try.checked) own started (by kernel_rfl) Try.func5
    (ChangeSpec.witness6 (enc := enc) (C := Try.checked) false ⟨#[], #[.int .i64 0, .slice none 0 0, .int .i64 0], []⟩ 8 (by kernel_rfl) (by kernel_rfl) (by kernel_rfl) (by kernel_rfl)) ?_
  intro W base args ds gs before hval hW _ _
  exact contract H enc W base args ds gs before hval hW

theorem proved : Rows.StpCutSaid :=
  OpenClaim.holds_of_wide 5 Try.f5 rfl rfl rfl rfl rfl rfl rfl ⟨rfl, rfl, rfl, rfl, rfl⟩ rfl rfl rfl rfl rfl (by kernel_rfl) Try.func5 (by kernel_rfl)
    (of_decide_eq_true (by kernel_rfl)) (by unfold Func.isWrapper; first | (rw [if_pos (by decide +kernel)]; kernel_rfl) | (rw [if_neg (by decide +kernel)]; exact ⟨rfl, rfl⟩))
    (fun os started H enc _ => lifted os started H enc)
end Go.Proofs.Ythjhlemdmahlnaa.StpCutL
