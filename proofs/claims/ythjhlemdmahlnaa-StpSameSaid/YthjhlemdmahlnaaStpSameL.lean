/- StpSame: all that hang together have one root, the least of them, and in whatever order links are told it is the same tree: for every input. No condition. -/
import Derived.Test.YthjhlemdmahlnaaStpFact
import Derived.Test.YthjhlemdmahlnaaStpMore
import Derived.Test.YthjhlemdmahlnaaIn3
import Derived.BigQuiet
import Derived.Test.YthjhlemdmahlnaaStpUse
import Derived.Deep.RegionHeld3
namespace Go.Proofs.Ythjhlemdmahlnaa.StpSameL
open Go.ChangeShapes Go.WideShapes Go.ChangeAt Go.RowKit Go.Proofs.Ythjhlemdmahlnaa.Kit Go.Proofs.Ythjhlemdmahlnaa.App Go.Proofs.Ythjhlemdmahlnaa.Cells Go.Proofs.Ythjhlemdmahlnaa.Err Go.Proofs.Ythjhlemdmahlnaa.Vector Go.Proofs.Ythjhlemdmahlnaa.Spf Go.Proofs.Ythjhlemdmahlnaa.Stp Go.Proofs.Ythjhlemdmahlnaa.Truth
set_option linter.unusedVariables false
set_option maxRecDepth 20000
set_option maxHeartbeats 2000000
abbrev Law (n : Int) (p : Option Addr) (m cap : Nat) (w : World) : Prop := Calls Try.prog 4 #[.int .i64 n, .slice p m cap] w fun e w' => e = .returned (.bool true) ∧ Below w.heap.size w w'
theorem law_bad (n : Int) (p : Option Addr) (m cap : Nat) (ls : List Lk) (w : World) (hm : m = ls.length) (hi : CI layL w p cap ls) (c : Int) (hc : code n ls = c) (h0 : c ≠ 0) : Law n p m cap w := by
  have hlm := hi.len_le
  rw [← hm] at hlm
  have TB := Lib.hid (fun W (hW : Below w.heap.size w W) => tree_bad n p cap m ls W hm (hi.below hW) c hc h0)
  rw [er_ne h0] at TB
  clear hm hi hc h0
  have FA := Lib.hid (Stp.fact_any w)
  unfold Law
  go_enter Try.func4, Try.ntmps4
  go_wp2_with fail
  refine FA.out.mono ?_; rintro e w1 ⟨rfl, hb1⟩
  have HB1 := Lib.hid hb1
  clear FA hb1
  go_wp2_with fail
  refine (TB.out w1 HB1.out).mono ?_; rintro e w2 ⟨rfl, hb⟩
  have HB2 := Lib.hid (bcall HB1.out hb)
  clear TB HB1 hb
  go_wp2_with fail
  go_ret
  exact ⟨by first | rfl | simp, HB2.out⟩
theorem law_good (n : Nat) (p : Option Addr) (m cap : Nat) (ls : List Lk) (w : World) (hm : m = ls.length) (hi : CI layL w p cap ls) (g : Vector.Good n ls) : Law n p m cap w := by
  have hn8 := g.up
  have hn1 := g.lo
  have hm32 : m ≤ 32 := by rw [hm]; exact g.len
  have hlm := hi.len_le
  rw [← hm] at hlm
  have TR := Lib.hid (fun W (hW : Below w.heap.size w W) => tree_good n p cap m ls W hm (hi.below hW) g)
  have hw1 : IntKind.i64.wrap ((m : Int) - 1) = (m : Int) - 1 := wrap_in (n := (m : Int) - 1) ⟨by omega, by omega⟩
  have u0 : ((n : Int) != (n : Int)) = false := by simp
  have KP := turned_keeps g
  have G2 := turned_good g
  have TG := Lib.hid (fun W q cq (hq : CI layL W q cq (turned ls)) => tree_good n q cq m (turned ls) W (by rw [turned_len]; exact hm) hq G2)
  rw [show rw1 n (rtI (turned ls)) = rw1 n (rtI ls) from rw1_congr fun i hi => by unfold rtI; rw [KP.rt g G2 hi], show rw1 n (fr (turned ls)) = rw1 n (fr ls) from rw1_congr fun i hi => KP.fr g G2 hi, show rw1 n (ov (turned ls)) = rw1 n (ov ls) from rw1_congr fun i hi => KP.ov g G2 hi] at TG
  have HG := Lib.hid g
  have HM := Lib.hid hm
  have HI := Lib.hid hi
  clear hm hi g KP G2
  have FA := Lib.hid (Stp.fact_any w)
  unfold Law
  go_enter Try.func4, Try.ntmps4
  go_wp2_with fail
  refine FA.out.mono ?_; rintro e w1 ⟨rfl, hb1⟩
  have HB1 := Lib.hid hb1
  clear FA hb1
  go_wp2_with fail
  refine (TR.out w1 HB1.out).mono ?_; rintro e w2 ⟨u, v, x, rfl, ht⟩
  have HB2 := Lib.hid (bcall HB1.out ht.bel)
  obtain ⟨pu, cu, rfl, iu⟩ := ht.o1.form
  obtain ⟨pv, cv, rfl, iv⟩ := ht.o2.form
  obtain ⟨px, cx, rfl, ix⟩ := ht.o3.form
  rw [rw1_len, rw1_len, rw1_len]
  have IU2 := Lib.hid iu
  have IV2 := Lib.hid iv
  have IX2 := Lib.hid ix
  obtain ⟨bu, ou, rfl, hbu, hcu⟩ := iu.2.2.2 (by rw [rw1_len]; omega)
  have hcapu : n ≤ cu := by have := iu.1; rwa [rw1_len] at this
  have CU := Lib.hid (fun W (hW : Below w2.heap.size w2 W) j (hj : j < n) => (show W.cell? ⟨bu, ou + j, none⟩ = some (.int .i64 (rt ls j : Int)) from by
    rw [hW.cell (p := ⟨bu, ou + j, none⟩) hbu, hcu j (by rw [rw1_len]; exact hj), rw1_get _ _ hj]; rfl))
  clear TR HB1 ht iu iv ix hbu hcu
  go_wp2_with fail
  -- both ends of a link
  go_loopw [10] (fun iv wr => ∃ k : Nat, k ≤ m ∧ iv = .int .i64 k ∧ Hid (Below w2.heap.size w2 wr)) (fun i _ => m - (intOf i).toNat)
  case atStart => exact ⟨0, Nat.zero_le _, rfl, Lib.hid (brefl _)⟩
  case round =>
    obtain ⟨k, hk, rfl, HR⟩ := hrel
    by_cases hlt : k < m
    · have v0 : decide ((k : Int) < (m : Int)) = true := decide_eq_true (by omega)
      have v1 : (k : Int) < (m : Int) := by omega
      have hkl : k < ls.length := by rw [← HM.out]; exact hlt
      obtain ⟨bl, off, rfl, hbl, hat⟩ := links_at HI.out (by omega)
      obtain ⟨x0, x1, _⟩ := hat wr (bcall HB2.out HR.out) k hkl
      have hgd := HG.out.all _ (lk_mem hkl)
      obtain ⟨a, ha⟩ : ∃ a : Nat, (lk ls k).a = (a : Int) := ⟨(lk ls k).a.toNat, by omega⟩
      obtain ⟨b, hb⟩ : ∃ b : Nat, (lk ls k).b = (b : Int) := ⟨(lk ls k).b.toNat, by omega⟩
      have her := ends_root HG.out hkl
      rw [ha, hb, Int.toNat_natCast, Int.toNat_natCast] at her
      rw [ha, hb] at hgd
      rw [ha] at x0
      rw [hb] at x1
      obtain ⟨⟨_, han⟩, ⟨_, hbn⟩, _, _⟩ := hgd
      have ca := CU.out wr HR.out a (by omega)
      have cb := CU.out wr HR.out b (by omega)
      rw [← her] at cb
      generalize rt ls a = r at ca cb
      have e0 : ((r : Int) != (r : Int)) = false := by simp
      clear hat ha hb her hkl hbl
      have HRD := Lib.hid (fun q => bdrewN HR.out q)
      go_wp2_with fail
      go_quiet (fail)
      go_wp2_with fail
      go_roundw
      case rel => exact ⟨k + 1, by omega, by first | rfl | go_num, Lib.hid (HRD.out _)⟩
      case measure => simp [intOf]; omega
    · obtain rfl : k = m := by omega
      have v0 : decide ((k : Int) < (k : Int)) = false := decide_eq_false (by omega)
      clear hlt
      go_wp2_with fail
      clear v0
      obtain ⟨wa, hwa⟩ : ∃ z, z = wr := ⟨wr, rfl⟩
      rw [← hwa] at HR ⊢
      clear hwa wr
      -- the roots are their own
      go_loopw [11] (fun iv wr => ∃ i : Nat, i ≤ n ∧ iv = .int .i64 i ∧ Hid (Below w2.heap.size w2 wr)) (fun i _ => n - (intOf i).toNat)
      case atStart => exact ⟨0, Nat.zero_le _, rfl, HR⟩
      case round =>
        obtain ⟨i, hin, rfl, HR2⟩ := hrel
        clear HR
        by_cases hlt : i < n
        · have v0 : decide ((i : Int) < (n : Int)) = true := decide_eq_true (by omega)
          have v1 : (i : Int) < (n : Int) := by omega
          have ci := CU.out wr HR2.out i hlt
          have hle := rt_le HG.out i
          have cr := CU.out wr HR2.out (rt ls i) (by omega)
          rw [rt_rt HG.out i] at cr
          generalize rt ls i = r at ci cr hle
          have e0 : ((r : Int) != (r : Int)) = false := by simp
          have e1 : decide ((r : Int) > (i : Int)) = false := decide_eq_false (by omega)
          have e1n : decide (i < r) = false := decide_eq_false (by omega)
          have e2 : decide ((r : Int) < 0) = false := decide_eq_false (by omega)
          have e3 : (r : Int) < (n : Int) := by omega
          have HRD := Lib.hid (fun q => bdrewN HR2.out q)
          clear hle
          go_wp2_with fail
          go_quiet (fail)
          go_wp2_with fail
          go_roundw
          case rel => exact ⟨i + 1, by omega, by first | rfl | go_num, Lib.hid (HRD.out _)⟩
          case measure => simp [intOf]; omega
        · obtain rfl : i = n := by omega
          have v0 : decide ((i : Int) < (i : Int)) = false := decide_eq_false (by omega)
          clear hlt
          obtain ⟨w5, hw5⟩ : ∃ z, z = wr := ⟨wr, rfl⟩
          rw [← hw5] at HR2 ⊢
          clear hw5 wr
          have HO0 : Hid (OC layL 33 w5 w5.heap.size (.slice none 0 0) ((turned ls).take 0)) := Lib.hid (OC.nil _ _ _ _)
          have HB5 := Lib.hid (bcall HB2.out HR2.out)
          go_wp2_with fail
          clear v0
          -- the links, the last first
          go_loopw [12, 13] (fun ev iv wr => ∃ s : Nat, s ≤ k ∧ iv = .int .i64 ((k : Int) - 1 - s) ∧ Hid (OC layL 33 wr w5.heap.size ev ((turned ls).take s)) ∧ Hid (Below w5.heap.size w5 wr)) (fun _ v _ => (intOf v + 1).toNat)
          case atStart => exact ⟨0, Nat.zero_le _, by first | rfl | simp, HO0, Lib.hid (brefl _)⟩
          case round =>
            obtain ⟨s, hsk, rfl, HO, HQ⟩ := hrel
            clear HO0
            by_cases hlt : s < k
            · obtain ⟨j, hj⟩ : ∃ j : Nat, (k : Int) - 1 - s = (j : Int) := ⟨k - 1 - s, by omega⟩
              rw [hj]
              have v0 : decide ((j : Int) ≥ 0) = true := decide_eq_true (by omega)
              have v1 : (j : Int) < (k : Int) := by omega
              have hjl : j < ls.length := by rw [← HM.out]; omega
              have hwj : IntKind.i64.wrap ((j : Int) - 1) = (j : Int) - 1 := wrap_in (n := (j : Int) - 1) ⟨by omega, by omega⟩
              obtain ⟨bl, off, rfl, hbl, hat⟩ := links_at HI.out (by omega)
              obtain ⟨x0, x1, x2⟩ := hat wr (bcall HB5.out HQ.out) j hjl
              obtain ⟨q00, q11, q22⟩ := hat w5 HB5.out j hjl
              have hb5 : bl < w5.heap.size := Nat.lt_of_lt_of_le hbl HB5.out.size
              have hbw : bl < wr.heap.size := Nat.lt_of_lt_of_le hb5 HQ.out.size
              have HTK := Lib.hid (turned_step (ls := ls) (s := s) (j := j) (by have := HM.out; omega))
              have HLN := Lib.hid (show ((turned ls).take s).length = s from by rw [List.length_take, turned_len]; have := HM.out; omega)
              unfold tw at HTK
              obtain ⟨xa, hxa⟩ : ∃ xa, (lk ls j).a = xa := ⟨_, rfl⟩
              obtain ⟨xb, hxb⟩ : ∃ xb, (lk ls j).b = xb := ⟨_, rfl⟩
              obtain ⟨xc, hxc⟩ : ∃ xc, (lk ls j).c = xc := ⟨_, rfl⟩
              rw [hxa, hxb, hxc] at HTK
              rw [hxa] at x0 q00
              rw [hxb] at x1 q11
              rw [hxc] at x2 q22
              have hsz := HQ.out.size
              have HJ := Lib.hid hj
              clear hat hxa hxb hxc hjl hbl hj
              obtain ⟨pe, ce, hev, _⟩ := HO.out.form
              rw [HLN.out] at hev
              subst hev
              go_wp2_with fail
              have q0 : wr.drew.cell? ⟨bl, off + j * 3, none⟩ = some (.int .i64 xa) := x0
              have q1 : wr.drew.cell? ⟨bl, off + j * 3 + 1, none⟩ = some (.int .i64 xb) := x1
              have q2 : wr.drew.cell? ⟨bl, off + j * 3 + 2, none⟩ = some (.int .i64 xc) := x2
              have q3 : ∀ o, (wr.drew.alloc o).cell? ⟨bl, off + j * 3, none⟩ = some (.int .i64 xa) := fun o => (World.cell?_alloc_lt wr.drew _ _ hbw).trans q0
              have q4 : ∀ o, (wr.drew.alloc o).cell? ⟨bl, off + j * 3 + 1, none⟩ = some (.int .i64 xb) := fun o => (World.cell?_alloc_lt wr.drew _ _ hbw).trans q1
              have q5 : ∀ o, (wr.drew.alloc o).cell? ⟨bl, off + j * 3 + 2, none⟩ = some (.int .i64 xc) := fun o => (World.cell?_alloc_lt wr.drew _ _ hbw).trans q2
              go_region_held3 (fun W' => W'.cell? ⟨bl, off + j * 3, none⟩ = some (.int .i64 xa) ∧ W'.cell? ⟨bl, off + j * 3 + 1, none⟩ = some (.int .i64 xb) ∧ W'.cell? ⟨bl, off + j * 3 + 2, none⟩ = some (.int .i64 xc))
                (first
                  | exact ⟨q0, q1, q2⟩
                  | exact ⟨q3 _, q4 _, q5 _⟩
                  | exact ⟨q6, q7, q8⟩
                  | go_keep)
                (first
                  | (refine step_appC tyL rfl (.tmp 99) (.tmp 116) rfl w5.heap.size _ ((turned ls).take s) (some ⟨wr.heap.size, 0, none⟩) 1 1 [⟨xb, xa, xc⟩] rfl (HO.out.drew.alloc _) rfl rfl (CI.one layL wr.drew ⟨xb, xa, xc⟩ _) (by rw [HLN.out, List.length_singleton]; omega) (Nat.le_trans hsz (by simp)) ?_
                     intro v8 w8 hown8 hg8 hat8
                     have HO8 := Lib.hid (show OC layL 33 w8 w5.heap.size v8 ((turned ls).take (s + 1)) by rw [HTK.out]; exact hown8)
                     have HB8 := Lib.hid (show Below w5.heap.size w5 w8 from below_oneC (w := wr.drew) (bdrewN HQ.out 1) hsz _ HO.out.drew hg8)
                     have q6 := (HB8.out.cell (p := ⟨bl, off + j * 3, none⟩) hb5).trans q00
                     have q7 := (HB8.out.cell (p := ⟨bl, off + j * 3 + 1, none⟩) hb5).trans q11
                     have q8 := (HB8.out.cell (p := ⟨bl, off + j * 3 + 2, none⟩) hb5).trans q22
                     clear hown8 hg8 hat8))
              go_wp2_with fail
              go_roundw
              case rel => exact ⟨s + 1, by omega, by rw [show (k : Int) - 1 - ((s + 1 : Nat) : Int) = (j : Int) - 1 by have := HJ.out; omega], HO8, HB8⟩
              case measure => simp [intOf]; try omega
            · obtain rfl : s = k := by omega
              have v0 : decide ((s : Int) - 1 - (s : Int) ≥ 0) = false := decide_eq_false (by omega)
              obtain ⟨z, hz⟩ : ∃ z : Int, (s : Int) - 1 - (s : Int) = z := ⟨_, rfl⟩
              rw [hz] at v0 ⊢
              clear hz hlt
              obtain ⟨pe, ce, hev, hci⟩ := HO.out.form
              have htk : (turned ls).take s = turned ls := List.take_of_length_le (by rw [turned_len, ← HM.out]; exact Nat.le_refl _)
              rw [htk] at hev hci
              rw [turned_len, ← HM.out] at hev
              subst hev
              have C := Lib.hid (TG.out wr pe ce hci)
              have HBW := Lib.hid (bcall HB5.out HQ.out)
              have HBU := Lib.hid (bcall HR2.out HQ.out)
              clear hci htk TG HO HQ HB5 HR2
              go_wp2_with fail
              refine C.out.mono ?_; rintro e w7 ⟨u2, v2, x2, rfl, ht⟩
              have HB7 := Lib.hid (bcall HBW.out ht.bel)
              have JU := Lib.hid ((IU2.out.below HBU.out).below ht.bel)
              have JV := Lib.hid ((IV2.out.below HBU.out).below ht.bel)
              have JX := Lib.hid ((IX2.out.below HBU.out).below ht.bel)
              obtain ⟨pu2, cu2, rfl, iu⟩ := ht.o1.form
              obtain ⟨pv2, cv2, rfl, iv⟩ := ht.o2.form
              obtain ⟨px2, cx2, rfl, ix⟩ := ht.o3.form
              rw [rw1_len, rw1_len, rw1_len]
              have KU := Lib.hid iu
              have KV := Lib.hid iv
              have KX := Lib.hid ix
              clear C ht iu iv ix IU2 IV2 IX2 HBU HBW v0 CU
              have S1 := Lib.hid (ints_any pu2 (some ⟨bu, ou, none⟩) cu2 cu i i (rw1 i (rtI ls)) (rw1 i (rtI ls)) w7 (rw1_len _ _).symm (rw1_len _ _).symm KU.out JU.out true (by simp))
              have S2 := Lib.hid (fun W (hW : Below w7.heap.size w7 W) => ints_any pv2 pv cv2 cv i i (rw1 i (fr ls)) (rw1 i (fr ls)) W (rw1_len _ _).symm (rw1_len _ _).symm (KV.out.below hW) (JV.out.below hW) true (by simp))
              have S3 := Lib.hid (fun W (hW : Below w7.heap.size w7 W) => ints_any px2 px cx2 cx i i (rw1 i (ov ls)) (rw1 i (ov ls)) W (rw1_len _ _).symm (rw1_len _ _).symm (KX.out.below hW) (JX.out.below hW) true (by simp))
              clear KU JU KV JV KX JX
              go_wp2_with fail
              refine S1.out.mono ?_; rintro e w8 ⟨rfl, hb8⟩
              have HB78 := Lib.hid hb8
              have HB8 := Lib.hid (bcall HB7.out hb8)
              clear hb8 S1
              go_wp2_with fail
              refine (S2.out w8 HB78.out).mono ?_; rintro e w9 ⟨rfl, hb9⟩
              have HB79 := Lib.hid (bcall HB78.out hb9)
              have HB9 := Lib.hid (bcall HB8.out hb9)
              clear hb9 S2
              go_wp2_with fail
              refine (S3.out w9 HB79.out).mono ?_; rintro e w10 ⟨rfl, hb10⟩
              have HB10 := Lib.hid (bcall HB9.out hb10)
              clear hb10 S3
              go_wp2_with fail
              go_ret
              exact ⟨by first | rfl | simp, HB10.out⟩
theorem law_any (n : Int) (p : Option Addr) (m cap : Nat) (ls : List Lk) (w : World) (hm : m = ls.length) (hi : CI layL w p cap ls) : Law n p m cap w := by
  by_cases h : code n ls = 0
  · obtain ⟨N, rfl, g⟩ := good_of h
    exact law_good N p m cap ls w hm hi g
  · exact law_bad n p m cap ls w hm hi _ rfl h

theorem reads : Try.f4.params.toList.all (fun t => Try.prog.readableRec t && decide (t < Try.prog.types.size)) = true := by kernel_rfl

theorem contract (H : Type) (enc : TypeId × Value → H) (W : World) (base : Nat) (args : Array Value) (ds gs : List (DataW H)) (before : List MemPlace)
    (hval : ∀ (j : Nat) t v, Try.f4.params[j]? = some t → args[j]? = some v → Value.okWide Try.prog W .any base t v)
    (hW : DataW.Whole enc Try.prog Try.f4.params.toList Rows.stpSameSpec.vars false W args.toList ds gs before) :
    Calls Try.prog 4 args W fun e W' => ∃ v, e = .returned v ∧ Rows.stpSameSpec.post enc Try.prog Try.f4 false true false false W args v W' := by
  have hW' := hW
  obtain ⟨p, q, hA0, hV, rfl, hfz, hnd⟩ := hW
  have hA : DataW.TrodAll enc Try.prog W 0 (fun _ => true) true Try.f4.params.toList args.toList ds p := hA0
  have hlt := hA.lt
  rw [Try.params4] at hA hval
  obtain ⟨v0, vs0, d0, ds0, p0, q0, hargs, rfl, rfl, h0, r0⟩ := trodAll_cons hA
  obtain ⟨v1, vs1, d1, ds1, p1, q1, hvs1, rfl, rfl, h1, r1⟩ := trodAll_cons r0
  obtain ⟨hvsn, rfl, rfl⟩ := trodAll_nil r1
  simp only [hvsn, hvs1] at hargs
  obtain rfl : args = #[v0, v1] := by cases args; simp_all
  obtain ⟨rfl, rfl⟩ := trodVars_none hV
  clear hA0
  obtain ⟨a0, rfl, rfl, rfl, w0⟩ := open_int Try.underlying3 (hval 0 3 v0 rfl rfl) h0
  have b0 := bounds_int w0
  obtain ⟨p1a, cap1, l1, rfl, i1, e1⟩ := Go.Proofs.Ythjhlemdmahlnaa.Vector.open_links (hval 1 22 v1 rfl rfl) h1 (fun x hx => hlt x (by simp [hx]))
  exact law_post 4 laid reads rfl Try.underlying4 rfl hW' ⟨rfl, rfl, rfl⟩ (law_any a0 p1a _ cap1 l1 W rfl i1)

set_option maxRecDepth 100000 in
theorem lifted (os : Os) (started : os.Started) (H : Type) (enc : TypeId × Value → H) :
    ReturnsInHanded {} Try.checked os 4 .any (Rows.stpSameSpec.pre6 enc Try.prog Try.f4 Rows.stpSameRow.domain false) (Rows.stpSameSpec.post enc Try.prog Try.f4 false true false false) := by
  refine returnsInHanded_of_change (C := Try.checked) own started (by kernel_rfl) Try.func4
    (ChangeSpec.witness6 (enc := enc) (C := Try.checked) false ⟨#[], #[.int .i64 0, .slice none 0 0], []⟩ 8 (by kernel_rfl) (by kernel_rfl) (by kernel_rfl) (by kernel_rfl)) ?_
  intro W base args ds gs before hval hW _ _
  exact contract H enc W base args ds gs before hval hW

theorem proved : Rows.StpSameSaid :=
  OpenClaim.holds_of_wide 4 Try.f4 rfl rfl rfl rfl rfl rfl rfl ⟨rfl, rfl, rfl, rfl, rfl⟩ rfl rfl rfl rfl rfl (by kernel_rfl) Try.func4 (by kernel_rfl)
    (of_decide_eq_true (by kernel_rfl)) (by unfold Func.isWrapper; first | (rw [if_pos (by decide +kernel)]; kernel_rfl) | (rw [if_neg (by decide +kernel)]; exact ⟨rfl, rfl⟩))
    (fun os started H enc _ => lifted os started H enc)
end Go.Proofs.Ythjhlemdmahlnaa.StpSameL
