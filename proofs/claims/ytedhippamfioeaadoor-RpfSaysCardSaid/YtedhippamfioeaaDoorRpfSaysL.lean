/- RpfSays: of any links and a point how many copies come to each one, how many are sent, and who would go over one is as specified: for every input, the row's handle laid as the card says. -/
import Derived.Test.YtedhippamfioeaaDoorCards
import Derived.Test.YtedhippamfioeaaDoorTie
import Derived.Deep.DeepHandedRow
import Derived.Lib.LaidTab
import Derived.LaidHandle
import Derived.SevenTiedAt
import Derived.Test.YtedhippamfioeaaDoorRpfKids
import Derived.Test.YtedhippamfioeaaDoorRpfRef
import Derived.Test.YtedhippamfioeaaDoorSpfRef
import Derived.Test.YtedhippamfioeaaDoorVecRef
import Derived.Test.YtedhippamfioeaaDoorSame
import Derived.Test.YtedhippamfioeaaDoorErrSame
import Derived.Test.YtedhippamfioeaaDoorIn3
import Derived.Deep.Cut
namespace Go.Proofs.YtedhippamfioeaaDoor.RpfSaysL
open Go.ChangeShapes Go.WideShapes Go.ChangeAt Go.RowKit Go.Proofs.YtedhippamfioeaaDoor.Kit Go.Proofs.YtedhippamfioeaaDoor.App Go.Proofs.YtedhippamfioeaaDoor.Cells Go.Proofs.YtedhippamfioeaaDoor.Err Go.Proofs.YtedhippamfioeaaDoor.Vector Go.Proofs.YtedhippamfioeaaDoor.Spf Go.Proofs.YtedhippamfioeaaDoor.Rpf Go.Proofs.YtedhippamfioeaaDoor.As
set_option linter.unusedVariables false
set_option maxRecDepth 20000
set_option maxHeartbeats 4000000

abbrev Law (n : Int) (p : Option Addr) (m cap : Nat) (s a : Int) (w : World) : Prop := Calls Tryd.prog 3 #[.int .i64 n, .slice p m cap, .int .i64 s, .int .i64 a] w fun e w' => e = .returned (.bool true) ∧ Below w.heap.size w w'
theorem ints_nil (W : World) : Ints W none 0 [] := ints_none W _ _ _ (by unfold maxLen; omega) rfl
theorem none_same (W : World) : Calls Tryd.prog 9 #[.slice none 0 0, .slice none 0 0] W fun e w' => e = .returned (.bool true) ∧ Below W.heap.size W w' := ints_any none none 0 0 0 0 [] [] W rfl rfl (ints_nil W) (ints_nil W) true (by decide)
theorem law_bad (n s a : Int) (p : Option Addr) (m cap : Nat) (ls : List Lk) (w : World) (hH : Handle w) (hm : m = ls.length) (hi : CI layL w p cap ls) (hs : (Lit.int .i64 s).wf = true) (ha : (Lit.int .i64 a).wf = true) (c : Int) (hc : code n ls = c) (h0 : c ≠ 0) : Law n p m cap s a w := by
  have D1 := Lib.hid (rlinks_any n p cap m ls w hm hi c hc)
  have hw1 : wrong n ls [s] = c := by unfold wrong; rw [if_neg (by rw [hc]; exact h0), hc]
  have hw2 : wrong n ls [s, a] = c := by unfold wrong; rw [if_neg (by rw [hc]; exact h0), hc]
  have FB := Lib.hid (fun W (hW : Below w.heap.size w W) => flood_bad n s p cap m ls W hm (hi.below hW) hs c hw1 h0)
  have KB := Lib.hid (fun W (hW : Below w.heap.size w W) => kids_bad n s a p cap m ls W hm (hi.below hW) hs ha c hw2 h0)
  have E1 := Lib.hid (fun W (hb : Below w.heap.size w W) => err_same c W (hH.below hb))
  have t0 : (c == 0) = false := by rw [beq_eq_false_iff_ne]; exact h0
  clear hm hi hc h0 hH hs ha hw1 hw2
  generalize er c = V at E1 FB KB
  unfold Law
  go_enter Tryd.func3, Tryd.ntmps3
  go_wp2_with fail
  refine D1.out.mono ?_; rintro e w1 ⟨rfl, hb⟩
  have HB1 := Lib.hid hb
  clear hb D1
  go_wp2_with fail
  refine (FB.out w1 HB1.out).mono ?_; rintro e w2 ⟨rfl, hb⟩
  have HB2 := Lib.hid (bcall HB1.out hb)
  clear FB HB1 hb
  go_wp2_with fail
  refine (E1.out w2 HB2.out).mono ?_; rintro e w3 ⟨rfl, hb⟩
  have HB3 := Lib.hid (bcall HB2.out hb)
  clear HB2 hb
  go_wp2_with fail
  refine (none_same w3).mono ?_; rintro e w4 ⟨rfl, hb⟩
  have HB4 := Lib.hid (bcall HB3.out hb)
  clear HB3 hb
  go_wp2_with fail
  go_loopw [11, 17] (fun kv iv wr => kv = .slice none 0 0 ∧ iv = .int .i64 0 ∧ wr = w4) (fun _ _ _ => 0)
  case atStart => exact ⟨rfl, rfl, rfl⟩
  case round =>
    obtain ⟨rfl, rfl, hww⟩ := hrel
    rw [hww]
    clear hww wr
    by_cases hn0 : 0 < n
    · have e1 : decide ((0 : Int) < n) = true := decide_eq_true hn0
      go_wp2_with fail
      refine (KB.out w4 HB4.out).mono ?_; rintro e w5 ⟨rfl, hb⟩
      have HB5 := Lib.hid (bcall HB4.out hb)
      clear KB HB4 hb
      go_wp2_with fail
      refine (E1.out w5 HB5.out).mono ?_; rintro e w6 ⟨rfl, hb⟩
      have HB6 := Lib.hid (bcall HB5.out hb)
      clear E1 HB5 hb
      go_wp2_with fail
      refine (none_same w6).mono ?_; rintro e w7 ⟨rfl, hb⟩
      have HB7 := Lib.hid (bcall HB6.out hb)
      clear HB6 hb
      go_wp2_with fail
      go_ret
      exact ⟨by first | rfl | simp, HB7.out⟩
    · have e1 : decide ((0 : Int) < n) = false := decide_eq_false hn0
      go_wp2_with fail
      refine (KB.out w4 HB4.out).mono ?_; rintro e w5 ⟨rfl, hb⟩
      have HB5 := Lib.hid (bcall HB4.out hb)
      clear KB HB4 hb
      go_wp2_with fail
      refine (E1.out w5 HB5.out).mono ?_; rintro e w6 ⟨rfl, hb⟩
      have HB6 := Lib.hid (bcall HB5.out hb)
      clear E1 HB5 hb
      go_wp2_with fail
      refine (none_same w6).mono ?_; rintro e w7 ⟨rfl, hb⟩
      have HB7 := Lib.hid (bcall HB6.out hb)
      clear HB6 hb
      go_wp2_with fail
      go_ret
      exact ⟨by first | rfl | simp, HB7.out⟩
theorem law_out (n : Nat) (s a : Int) (p : Option Addr) (m cap : Nat) (ls : List Lk) (w : World) (hH : Handle w) (hm : m = ls.length) (hi : CI layL w p cap ls) (hs : (Lit.int .i64 s).wf = true) (ha : (Lit.int .i64 a).wf = true) (g : Vector.Good n ls) (hso : ¬ (0 ≤ s ∧ s ≤ (n : Int) - 1)) : Law n p m cap s a w := by
  have hn8 := g.up
  have hn1 := g.lo
  have D1 := Lib.hid (rlinks_any (n : Int) p cap m ls w hm hi 0 (code_good g))
  have hwn : IntKind.i64.wrap ((n : Int) - 1) = (n : Int) - 1 := wrap_in (n := (n : Int) - 1) ⟨by omega, by omega⟩
  have hw1 : wrong (n : Int) ls [s] = 1 := by
    unfold wrong
    rw [if_pos (code_good g)]
    unfold outs
    rw [if_pos (by omega)]
  have hw2 : wrong (n : Int) ls [s, a] = 1 := by
    unfold wrong
    rw [if_pos (code_good g)]
    unfold outs
    rw [if_pos (by omega)]
  have FB := Lib.hid (fun W (hW : Below w.heap.size w W) => flood_bad (n : Int) s p cap m ls W hm (hi.below hW) hs 1 hw1 (by decide))
  have KB := Lib.hid (fun W (hW : Below w.heap.size w W) => kids_bad (n : Int) s a p cap m ls W hm (hi.below hW) hs ha 1 hw2 (by decide))
  have E1 := Lib.hid (fun W (hb : Below w.heap.size w W) => err_same 1 W (hH.below hb))
  have IN := Lib.hid (fun W => Drr.in_any s 0 ((n : Int) - 1) W false (in_false hso))
  have e1 : decide ((0 : Int) < (n : Int)) = true := decide_eq_true (by omega)
  have e1n : 0 < n := by omega
  clear hm hi hH hs ha hw1 hw2 g hso
  generalize er 1 = V at E1 FB KB
  unfold Law
  go_enter Tryd.func3, Tryd.ntmps3
  go_wp2_with fail
  refine D1.out.mono ?_; rintro e w1 ⟨rfl, hb⟩
  have HB1 := Lib.hid hb
  clear hb D1
  go_wp2_with fail
  refine (IN.out w1).mono ?_; rintro e w9 ⟨rfl, hw9⟩
  rw [hw9]
  clear hw9 w9
  go_wp2_with fail
  refine (FB.out w1 HB1.out).mono ?_; rintro e w2 ⟨rfl, hb⟩
  have HB2 := Lib.hid (bcall HB1.out hb)
  clear FB HB1 hb
  go_wp2_with fail
  refine (E1.out w2 HB2.out).mono ?_; rintro e w3 ⟨rfl, hb⟩
  have HB3 := Lib.hid (bcall HB2.out hb)
  clear HB2 hb
  go_wp2_with fail
  refine (none_same w3).mono ?_; rintro e w4 ⟨rfl, hb⟩
  have HB4 := Lib.hid (bcall HB3.out hb)
  clear HB3 hb
  go_wp2_with fail
  go_loopw [11, 17] (fun kv iv wr => kv = .slice none 0 0 ∧ iv = .int .i64 0 ∧ wr = w4) (fun _ _ _ => 0)
  case atStart => exact ⟨rfl, rfl, rfl⟩
  case round =>
    obtain ⟨rfl, rfl, hww⟩ := hrel
    rw [hww]
    clear hww wr
    go_wp2_with fail
    refine (KB.out w4 HB4.out).mono ?_; rintro e w5 ⟨rfl, hb⟩
    have HB5 := Lib.hid (bcall HB4.out hb)
    clear KB HB4 hb
    go_wp2_with fail
    refine (E1.out w5 HB5.out).mono ?_; rintro e w6 ⟨rfl, hb⟩
    have HB6 := Lib.hid (bcall HB5.out hb)
    clear E1 HB5 hb
    go_wp2_with fail
    refine (none_same w6).mono ?_; rintro e w7 ⟨rfl, hb⟩
    have HB7 := Lib.hid (bcall HB6.out hb)
    clear HB6 hb
    go_wp2_with fail
    go_ret
    exact ⟨by first | rfl | simp, HB7.out⟩
theorem law_at (n s : Nat) (a : Int) (p : Option Addr) (m cap : Nat) (ls : List Lk) (w : World) (hH : Handle w) (hm : m = ls.length) (hi : CI layL w p cap ls) (hsw : (Lit.int .i64 (s : Int)).wf = true) (ha : (Lit.int .i64 a).wf = true) (g : Vector.Good n ls) (hs : s < n) (hao : ¬ (0 ≤ a ∧ a ≤ (n : Int) - 1)) : Law n p m cap s a w := by
  have hn8 := g.up
  have hn1 := g.lo
  have D1 := Lib.hid (rlinks_any (n : Int) p cap m ls w hm hi 0 (code_good g))
  have hwn : IntKind.i64.wrap ((n : Int) - 1) = (n : Int) - 1 := wrap_in (n := (n : Int) - 1) ⟨by omega, by omega⟩
  have RF := Lib.hid (fun W (hW : Below w.heap.size w W) => rflood_any n s p cap m ls W g hm (hi.below hW) hs)
  have FL := Lib.hid (fun W (hW : Below w.heap.size w W) => flood_good (s := s) p cap m W hm (hi.below hW) g hs)
  have E0 := Lib.hid (fun W (hb : Below w.heap.size w W) => err_same 0 W (hH.below hb))
  rw [er_0] at E0
  have IN := Lib.hid (fun W => Drr.in_any (s : Int) 0 ((n : Int) - 1) W true (in_true ⟨by omega, by omega⟩))
  have hw2 : wrong (n : Int) ls [(s : Int), a] = 1 := by
    unfold wrong
    rw [if_pos (code_good g)]
    unfold outs outs
    rw [if_neg (by omega), if_pos (by omega)]
  have KB := Lib.hid (fun W (hW : Below w.heap.size w W) => kids_bad (n : Int) s a p cap m ls W hm (hi.below hW) hsw ha 1 hw2 (by decide))
  have E1 := Lib.hid (fun W (hb : Below w.heap.size w W) => err_same 1 W (hH.below hb))
  have IN2 := Lib.hid (fun W => Drr.in_any a 0 ((n : Int) - 1) W false (in_false hao))
  have e1 : decide ((0 : Int) < (n : Int)) = true := decide_eq_true (by omega)
  have e1n : 0 < n := by omega
  clear hm hi hH hsw ha hw2 g hao
  generalize er 1 = V at E1 KB
  unfold Law
  go_enter Tryd.func3, Tryd.ntmps3
  go_wp2_with fail
  refine D1.out.mono ?_; rintro e w1 ⟨rfl, hb⟩
  have HB1 := Lib.hid hb
  clear hb D1
  go_wp2_with fail
  refine (IN.out w1).mono ?_; rintro e w9 ⟨rfl, hw9⟩
  rw [hw9]
  clear hw9 w9
  go_wp2_with fail
  refine (RF.out w1 HB1.out).mono ?_; rintro e w10 ⟨q, cq, rfl, hoq, hb⟩
  have HB10 := Lib.hid (bcall HB1.out hb)
  obtain ⟨q2, cq2, e2, iq⟩ := hoq.form
  rw [cps_len] at e2
  injection e2 with e3 _ e4
  subst e3; subst e4
  have IQ10 := Lib.hid iq
  clear RF HB1 hb hoq iq
  go_wp2_with fail
  refine (FL.out w10 HB10.out).mono ?_; rintro e w2 ⟨u, rfl, hu, hb⟩
  have HB2 := Lib.hid (bcall HB10.out hb)
  have IQ2 := Lib.hid (IQ10.out.below hb)
  obtain ⟨pu, cu, rfl, iu⟩ := hu.form
  rw [cps_len]
  have IU2 := Lib.hid iu
  have t5 : (((sent n ls s : Nat) : Int) == ((sent n ls s : Nat) : Int)) = true := by simp
  generalize sent n ls s = k0 at t5 ⊢
  clear FL HB10 hb hu iu IQ10
  go_wp2_with fail
  refine (E0.out w2 HB2.out).mono ?_; rintro e w3 ⟨rfl, hb⟩
  have HB3 := Lib.hid (bcall HB2.out hb)
  have SM := Lib.hid (ints_any pu q cu cq n n (cps n (copies n ls s)) (cps n (copies n ls s)) w3 (cps_len _ _).symm (cps_len _ _).symm (IU2.out.below hb) (IQ2.out.below hb) true (by simp))
  clear HB2 hb IU2 IQ2
  go_wp2_with fail
  refine SM.out.mono ?_; rintro e w4 ⟨rfl, hb⟩
  have HB4 := Lib.hid (bcall HB3.out hb)
  clear HB3 hb SM
  go_wp2_with fail
  refine (IN2.out w4).mono ?_; rintro e w9 ⟨rfl, hw9⟩
  rw [hw9]
  clear hw9 w9
  go_wp2_with fail
  go_loopw [11, 17] (fun kv iv wr => kv = .slice none 0 0 ∧ iv = .int .i64 0 ∧ wr = w4) (fun _ _ _ => 0)
  case atStart => exact ⟨rfl, rfl, rfl⟩
  case round =>
    obtain ⟨rfl, rfl, hww⟩ := hrel
    rw [hww]
    clear hww wr
    go_wp2_with fail
    refine (KB.out w4 HB4.out).mono ?_; rintro e w5 ⟨rfl, hb⟩
    have HB5 := Lib.hid (bcall HB4.out hb)
    clear KB HB4 hb
    go_wp2_with fail
    refine (E1.out w5 HB5.out).mono ?_; rintro e w6 ⟨rfl, hb⟩
    have HB6 := Lib.hid (bcall HB5.out hb)
    clear E1 HB5 hb
    go_wp2_with fail
    refine (none_same w6).mono ?_; rintro e w7 ⟨rfl, hb⟩
    have HB7 := Lib.hid (bcall HB6.out hb)
    clear HB6 hb
    go_wp2_with fail
    go_ret
    exact ⟨by first | rfl | simp, HB7.out⟩
theorem law_good (n s a : Nat) (p : Option Addr) (m cap : Nat) (ls : List Lk) (w : World) (hH : Handle w) (hm : m = ls.length) (hi : CI layL w p cap ls) (g : Vector.Good n ls) (hs : s < n) (ha : a < n) : Law n p m cap s a w := by
  have hn8 := g.up
  have hn1 := g.lo
  have D1 := Lib.hid (rlinks_any (n : Int) p cap m ls w hm hi 0 (code_good g))
  have hwn : IntKind.i64.wrap ((n : Int) - 1) = (n : Int) - 1 := wrap_in (n := (n : Int) - 1) ⟨by omega, by omega⟩
  have RF := Lib.hid (fun W (hW : Below w.heap.size w W) => rflood_any n s p cap m ls W g hm (hi.below hW) hs)
  have FL := Lib.hid (fun W (hW : Below w.heap.size w W) => flood_good (s := s) p cap m W hm (hi.below hW) g hs)
  have E0 := Lib.hid (fun W (hb : Below w.heap.size w W) => err_same 0 W (hH.below hb))
  rw [er_0] at E0
  have IN := Lib.hid (fun W => Drr.in_any (s : Int) 0 ((n : Int) - 1) W true (in_true ⟨by omega, by omega⟩))
  have KR := Lib.hid (fun W (hW : Below w.heap.size w W) => kids_good n s a p cap m ls W hm (hi.below hW) g hs ha)
  have HOP := Lib.hid (fun W (hW : Below w.heap.size w W) i (hin : i < n) => rhop_any n i s p cap m ls W g hm (hi.below hW) hin hs)
  have IN2 := Lib.hid (fun W => Drr.in_any (a : Int) 0 ((n : Int) - 1) W true (in_true ⟨by omega, by omega⟩))
  have HG := Lib.hid g
  have HS := Lib.hid hs
  rw [← kd_kids g (Int.natCast_nonneg a)] at KR
  clear hm hi hH g
  unfold Law
  go_enter Tryd.func3, Tryd.ntmps3
  go_wp2_with fail
  refine D1.out.mono ?_; rintro e w1 ⟨rfl, hb⟩
  have HB1 := Lib.hid hb
  clear hb D1
  go_wp2_with fail
  refine (IN.out w1).mono ?_; rintro e w9 ⟨rfl, hw9⟩
  rw [hw9]
  clear hw9 w9
  go_wp2_with fail
  refine (RF.out w1 HB1.out).mono ?_; rintro e w10 ⟨q, cq, rfl, hoq, hb⟩
  have HB10 := Lib.hid (bcall HB1.out hb)
  obtain ⟨q2, cq2, e2, iq⟩ := hoq.form
  rw [cps_len] at e2
  injection e2 with e3 _ e4
  subst e3; subst e4
  have IQ10 := Lib.hid iq
  clear RF HB1 hb hoq iq
  go_wp2_with fail
  refine (FL.out w10 HB10.out).mono ?_; rintro e w2 ⟨u, rfl, hu, hb⟩
  have HB2 := Lib.hid (bcall HB10.out hb)
  have IQ2 := Lib.hid (IQ10.out.below hb)
  obtain ⟨pu, cu, rfl, iu⟩ := hu.form
  rw [cps_len]
  have IU2 := Lib.hid iu
  have t5 : (((sent n ls s : Nat) : Int) == ((sent n ls s : Nat) : Int)) = true := by simp
  generalize sent n ls s = k0 at t5 ⊢
  clear FL HB10 hb hu iu IQ10
  go_wp2_with fail
  refine (E0.out w2 HB2.out).mono ?_; rintro e w3 ⟨rfl, hb⟩
  have HB3 := Lib.hid (bcall HB2.out hb)
  have SM := Lib.hid (ints_any pu q cu cq n n (cps n (copies n ls s)) (cps n (copies n ls s)) w3 (cps_len _ _).symm (cps_len _ _).symm (IU2.out.below hb) (IQ2.out.below hb) true (by simp))
  clear HB2 hb IU2 IQ2
  go_wp2_with fail
  refine SM.out.mono ?_; rintro e w4 ⟨rfl, hb⟩
  have HB4 := Lib.hid (bcall HB3.out hb)
  clear HB3 hb SM
  go_wp2_with fail
  refine (IN2.out w4).mono ?_; rintro e w9 ⟨rfl, hw9⟩
  rw [hw9]
  clear hw9 w9
  go_wp2_with fail
  go_loopw [11, 17] (fun kv iv wr => ∃ i : Nat, i ≤ n ∧ iv = .int .i64 i ∧ Hid (OwnI wr w4.heap.size kv (kd ls s (a : Int) i)) ∧ Hid (Below w4.heap.size w4 wr)) (fun _ i _ => n - (intOf i).toNat)
  case atStart => exact ⟨0, Nat.zero_le _, rfl, Lib.hid (by rw [show kd ls s (a : Int) 0 = [] from rfl]; exact OwnI.nil _ _), Lib.hid (brefl _)⟩
  case round =>
    obtain ⟨i, hin, rfl, HK, HR⟩ := hrel
    by_cases hlt : i < n
    · have v0 : decide ((i : Int) < (n : Int)) = true := decide_eq_true (by omega)
      by_cases his : i = s
      · have t1 : ((i : Int) != (s : Int)) = false := by rw [his]; simp
        have HE := Lib.hid (kd_no (ls := ls) (s := s) (k := i) (x := (a : Int)) (by rw [hop_none HG.out (.inl his)]; omega))
        clear his
        go_wp2_with fail
        go_roundw
        case rel => exact ⟨i + 1, by omega, by first | rfl | go_num, Lib.hid (by rw [HE.out]; exact HK.out), HR⟩
        case measure => simp [intOf]; omega
      · have t1 : ((i : Int) != (s : Int)) = true := by rw [bne_iff_ne]; omega
        have P1 := Lib.hid (HOP.out wr (bcall HB4.out HR.out) i hlt)
        obtain ⟨y, hy⟩ : ∃ y, hop ls i s = y := ⟨_, rfl⟩
        rw [hy] at P1
        by_cases he : y = (a : Int)
        · have t2 : (y == (a : Int)) = true := beq_iff_eq.2 he
          have HE := Lib.hid (kd_yes (ls := ls) (s := s) (k := i) (x := (a : Int)) (by rw [hy, he]))
          have hkl := kd_le ls s (a : Int) i
          have hwk : (Lit.int .i64 (i : Int)).wf = true := wf_hop (by omega)
          have HW1 := Lib.hid hwk
          clear hy he hwk his
          go_wp2_with fail
          refine P1.out.mono ?_; rintro e w5 ⟨rfl, hb5⟩
          have HK5 := Lib.hid (HK.out.below hb5)
          have HR5 := Lib.hid (bcall HR.out hb5)
          obtain ⟨pk, qk, rfl, hik⟩ := HK5.out.form
          obtain ⟨mk, hmk⟩ : ∃ mk, (kd ls s (a : Int) i).length = mk := ⟨_, rfl⟩
          rw [hmk] at hkl HK5 ⊢
          have HMK := Lib.hid hmk
          clear hb5 HK HR hik hmk P1
          go_wp2_with (at_builtin
                       refine wp_app rfl (.tmp 91) (.tmp 93) rfl w4.heap.size (.slice pk mk qk) (kd ls s (a : Int) i) (some ⟨w5.heap.size, 0, none⟩) 1 1 [(i : Int)] rfl (HK5.out.alloc _) rfl rfl (Ints.one w5 _ HW1.out) (by rw [HMK.out]; simp; omega) (by have := HR5.out.size; simp; omega) ?_
                       intro v3 w3 ho3 hg3 hat3
                       have HO3 := Lib.hid ho3
                       have HB3 := Lib.hid (show Below w4.heap.size w4 w3 from (HR5.out.trans ((balloc (brefl w5) (.cells #[.int .i64 (i : Int)] 3)).mono HR5.out.size)).grown hg3 (by have := HR5.out.size; simp; omega) (fun r e => (HK5.out.lt r e).1))
                       clear ho3 hg3 hat3)
          go_roundw
          case rel => exact ⟨i + 1, by omega, by first | rfl | go_num, Lib.hid (by rw [HE.out]; exact HO3.out), HB3⟩
          case measure => simp [intOf]; omega
        · have t2 : (y == (a : Int)) = false := beq_eq_false_iff_ne.2 he
          have HE := Lib.hid (kd_no (ls := ls) (s := s) (k := i) (x := (a : Int)) (by rw [hy]; exact he))
          clear hy he his
          go_wp2_with fail
          refine P1.out.mono ?_; rintro e w5 ⟨rfl, hb5⟩
          have HK5 := Lib.hid (HK.out.below hb5)
          have HR5 := Lib.hid (bcall HR.out hb5)
          clear hb5 HK HR P1
          go_wp2_with fail
          go_roundw
          case rel => exact ⟨i + 1, by omega, by first | rfl | go_num, Lib.hid (by rw [HE.out]; exact HK5.out), HR5⟩
          case measure => simp [intOf]; omega
    · obtain rfl : i = n := by omega
      have v0 : decide ((i : Int) < (i : Int)) = false := decide_eq_false (by omega)
      have HB5 := Lib.hid (bcall HB4.out HR.out)
      obtain ⟨pk, qk, rfl, hik⟩ := HK.out.form
      have IK := Lib.hid hik
      clear HK HR HB4 hik
      go_wp2_with fail
      refine (KR.out wr HB5.out).mono ?_; rintro e w6 ⟨v6, rfl, ho6, hb⟩
      have HB6 := Lib.hid (bcall HB5.out hb)
      have IK6 := Lib.hid (IK.out.below hb)
      obtain ⟨p6, c6, rfl, i6⟩ := ho6.form
      have IV6 := Lib.hid i6
      clear KR HB5 IK hb ho6 i6
      go_wp2_with fail
      refine (E0.out w6 HB6.out).mono ?_; rintro e w7 ⟨rfl, hb⟩
      have HB7 := Lib.hid (bcall HB6.out hb)
      have SM := Lib.hid (ints_any p6 pk c6 qk _ _ (kd ls s (a : Int) i) (kd ls s (a : Int) i) w7 rfl rfl (IV6.out.below hb) (IK6.out.below hb) true (by simp))
      clear HB6 hb IV6 IK6
      go_wp2_with fail
      refine SM.out.mono ?_; rintro e w8 ⟨rfl, hb⟩
      have HB8 := Lib.hid (bcall HB7.out hb)
      clear HB7 hb SM
      go_wp2_with fail
      go_ret
      exact ⟨by first | rfl | simp, HB8.out⟩
theorem law_any (n s a : Int) (p : Option Addr) (m cap : Nat) (ls : List Lk) (w : World) (hH : Handle w) (hm : m = ls.length) (hi : CI layL w p cap ls) (hs : (Lit.int .i64 s).wf = true) (ha : (Lit.int .i64 a).wf = true) : Law n p m cap s a w := by
  by_cases hc : code n ls = 0
  · obtain ⟨N, rfl, g⟩ := good_of hc
    by_cases h1 : 0 ≤ s ∧ s ≤ (N : Int) - 1
    · obtain ⟨S, rfl⟩ : ∃ S : Nat, s = (S : Int) := ⟨s.toNat, by omega⟩
      by_cases h2 : 0 ≤ a ∧ a ≤ (N : Int) - 1
      · obtain ⟨A, rfl⟩ : ∃ A : Nat, a = (A : Int) := ⟨a.toNat, by omega⟩
        exact law_good N S A p m cap ls w hH hm hi g (by omega) (by omega)
      · exact law_at N S a p m cap ls w hH hm hi hs ha g (by omega) h2
    · exact law_out N s a p m cap ls w hH hm hi hs ha g h1
  · exact law_bad n s a p m cap ls w hH hm hi hs ha _ rfl hc

theorem reads : Tryd.f3.params.toList.all (fun t => Tryd.prog.readableRec t && decide (t < Tryd.prog.types.size)) = true := by kernel_rfl
theorem et : Tryd.prog.globalNamed "errors.errorType" = some 0 := by kernel_rfl
theorem rt : (Tryd.prog.cutTypes.find? (·.1 == "internal/reflectlite.rtype")).map (·.2) = some 93 := by kernel_rfl
theorem oneRow : ((List.range Tryd.prog.types.size).filter fun t => Tryd.prog.rowNamed t [101, 114, 114, 111, 114]) = [29] := by kernel_rfl

theorem handle_of_laid {W : World} (h : laidMetH Tryd.prog Rows.rpfSaysRow.laid W) : Handle W := by
  have h' : laidMet Tryd.prog [] W ∧ handlesMet Tryd.prog Rows.rpfSaysRow.laid W := h
  obtain ⟨name, u, ty, e1, e2, e3, e4, e5⟩ := h'.2 _ (List.mem_singleton.2 rfl)
  have en : name = [101, 114, 114, 111, 114] := (Option.some.inj e1).symm
  subst en
  obtain rfl := Option.some.inj (rt.symm.trans e2)
  have hm : ty ∈ (List.range Tryd.prog.types.size).filter fun t => Tryd.prog.rowNamed t [101, 114, 114, 111, 114] := List.mem_filter.2 ⟨List.mem_range.2 e3, e4⟩
  rw [oneRow] at hm
  obtain rfl := List.mem_singleton.1 hm
  have hh : typeHandle Tryd.prog 29 = .pointer (some ⟨1, 29, none⟩) := by kernel_rfl
  rw [hh] at e5
  have e6 := World.var?_cell et e5 0
  unfold Handle
  simpa using e6

noncomputable def laidWorld (os : Os) : World :=
  { World.holding Tryd.prog os ⟨#[], #[], []⟩ with heap := (World.holding Tryd.prog os ⟨#[], #[], []⟩).heap.modify 0 fun
      | .cells _ t frozen => .cells #[.iface 93 (.agg #[.pointer (some ⟨1, 29, none⟩)])] t frozen
      | o => o }
theorem laid_met (os : Os) : laidMetH Tryd.prog Rows.rpfSaysRow.laid ((laidWorld os).forCall (fun _ _ => 0) ⟨#[], #[.int .i64 0, .slice none 0 0, .int .i64 0, .int .i64 0], []⟩).memory :=
  laidMetH_of_parts (laidMet_nil _ _) (by kernel_rfl)
theorem reads_wit (os : Os) {H : Type} (enc : TypeId × Value → H) : ∃ places, DataW.whole enc Tryd.prog ((laidWorld os).forCall (fun _ _ => 0) ⟨#[], #[.int .i64 0, .slice none 0 0, .int .i64 0, .int .i64 0], []⟩).memory Tryd.f3.params.toList Rows.rpfSaysSpec.vars false (#[.int .i64 0, .slice none 0 0, .int .i64 0, .int .i64 0] : Array Value).toList 8 = some ([.lit (.int .i64 0), .nil, .lit (.int .i64 0), .lit (.int .i64 0)], [], places) :=
  ⟨[], by kernel_rfl⟩

theorem contract (H : Type) (enc : TypeId × Value → H) (W : World) (base : Nat) (args : Array Value) (ds gs : List (DataW H)) (before : List MemPlace)
    (hval : ∀ (j : Nat) t v, Tryd.f3.params[j]? = some t → args[j]? = some v → Value.okWide Tryd.prog W .any base t v)
    (hW : DataW.Whole enc Tryd.prog Tryd.f3.params.toList Rows.rpfSaysSpec.vars false W args.toList ds gs before) (hL : laidMetH Tryd.prog Rows.rpfSaysRow.laid W) :
    Calls Tryd.prog 3 args W fun e W' => ∃ v, e = .returned v ∧ Rows.rpfSaysSpec.post enc Tryd.prog Tryd.f3 false true false false W args v W' := by
  have hW' := hW
  have hg := handle_of_laid hL
  obtain ⟨p, q, hA0, hV, rfl, hfz, hnd⟩ := hW
  have hA : DataW.TrodAll enc Tryd.prog W 0 (fun _ => true) true Tryd.f3.params.toList args.toList ds p := hA0
  have hlt := hA.lt
  rw [Tryd.params3] at hA hval
  obtain ⟨v0, vs0, d0, ds0, p0, q0, hargs, rfl, rfl, h0, r0⟩ := trodAll_cons hA
  obtain ⟨v1, vs1, d1, ds1, p1, q1, hvs1, rfl, rfl, h1, r1⟩ := trodAll_cons r0
  obtain ⟨v2, vs2, d2, ds2, p2, q2, hvs2, rfl, rfl, h2, r2⟩ := trodAll_cons r1
  obtain ⟨v3, vs3, d3, ds3, p3, q3, hvs3, rfl, rfl, h3, r3⟩ := trodAll_cons r2
  obtain ⟨hvsn, rfl, rfl⟩ := trodAll_nil r3
  simp only [hvsn, hvs3, hvs2, hvs1] at hargs
  obtain rfl : args = #[v0, v1, v2, v3] := by cases args; simp_all
  obtain ⟨a0, rfl, rfl, rfl, w0⟩ := open_int Tryd.underlying3 (hval 0 3 v0 rfl rfl) h0
  have b0 := bounds_int w0
  obtain ⟨p1a, cap1, l1, rfl, i1, e1⟩ := Go.Proofs.YtedhippamfioeaaDoor.Vector.open_links (hval 1 22 v1 rfl rfl) h1 (fun x hx => hlt x (by simp [hx]))
  obtain ⟨a2, rfl, rfl, rfl, w2⟩ := open_int Tryd.underlying3 (hval 2 3 v2 rfl rfl) h2
  have b2 := bounds_int w2
  obtain ⟨a3, rfl, rfl, rfl, w3⟩ := open_int Tryd.underlying3 (hval 3 3 v3 rfl rfl) h3
  have b3 := bounds_int w3
  obtain ⟨rfl, rfl⟩ := trodVars_none hV
  clear hA0
  exact law_post 4 laid reads rfl Tryd.underlying4 rfl hW' ⟨rfl, rfl, rfl⟩ (law_any a0 a2 a3 _ _ _ l1 W hg rfl i1 w2 w3)

set_option maxRecDepth 100000 in
theorem lifted (os : Os) (started : os.Started) (H : Type) (enc : TypeId × Value → H) (F : Stop.Interp) :
    ReturnsInHanded {} Tryd.checked os 3 .any ((OpenSpec.ofChange Rows.rpfSaysSpec).preRow enc Tryd.prog Tryd.f3 Rows.rpfSaysRow.domain false Rows.rpfSaysRow.laid) (((OpenSpec.ofChange Rows.rpfSaysSpec).at F).post enc Tryd.prog Tryd.f3 false true false false) := by
  obtain ⟨places, hx⟩ := reads_wit os enc
  refine returnsInHanded_of_row (C := Tryd.checked) (s := (OpenSpec.ofChange Rows.rpfSaysSpec)) own started (by kernel_rfl) Tryd.func3
    (witness_row_at (enc := enc) (C := Tryd.checked) false (laidWorld os) #[.int .i64 0, .slice none 0 0, .int .i64 0, .int .i64 0] rfl (by kernel_rfl) (by kernel_rfl) (by kernel_rfl)
      (OpenSpec.preRow_of_cond 8 hx (by kernel_rfl) (fun k hk => by cases hk) (by kernel_rfl) (laid_met os))) ?_
  intro W base args ds gs before hval hW _ hcond _ hL _ _
  exact contract H enc W base args ds gs before hval hW hL

theorem said : Rows.RpfSaysSaid :=
  OpenClaim.holds_of_cond 3 Tryd.f3 rfl rfl rfl rfl rfl rfl rfl ⟨rfl, rfl, rfl, rfl, rfl⟩ rfl rfl rfl rfl rfl (by kernel_rfl) Tryd.func3 (by kernel_rfl)
    (of_decide_eq_true (by kernel_rfl)) (by unfold Func.isWrapper; first | (rw [if_pos (by decide +kernel)]; kernel_rfl) | (rw [if_neg (by decide +kernel)]; exact ⟨rfl, rfl⟩))
    (fun os started H enc _ F => by rw [OpenClaim.pre_eq_preRow]; exact lifted os started H enc F)

theorem plain (f : FuncId) (fn : Func) (hf : Tryd.pinned.checked.prog.funcNamed Rows.rpfSaysRow.func = some f) (hfn : Tryd.pinned.checked.prog.funcs[f]? = some fn) :
    true = Tryd.pinned.checked.prog.looks [] ∧ ∀ (j : Nat) t, fn.params[j]? = some t → Tryd.pinned.checked.prog.wantsStandIn t = false := by
  obtain rfl : f = 3 := Option.some.inj ((show Tryd.prog.funcNamed Rows.rpfSaysRow.func = some 3 by kernel_rfl).symm.trans hf) |>.symm
  obtain rfl : fn = Tryd.f3 := (Option.some.inj (Tryd.func3.symm.trans hfn)).symm
  refine ⟨by kernel_rfl, fun j t ht => ?_⟩
  have hall : Tryd.f3.params.toList.all (fun t => !Tryd.prog.wantsStandIn t) = true := by kernel_rfl
  have hm : t ∈ Tryd.f3.params.toList := by simpa using Array.mem_of_getElem? ht
  have := List.all_eq_true.1 hall t hm
  show Tryd.prog.wantsStandIn t = false
  simpa using this

theorem proved : Rows.RpfSaysCardSaid :=
  Claim7.holds_tied_plain_at .later [] _ _ _ _ said (fun _ h => by cases h) (by kernel_rfl) (fun _ h => by cases h) rpfSays_row_tie rfl ⟨rfl, rfl⟩ (by kernel_rfl) rfl plain (by kernel_rfl)
end Go.Proofs.YtedhippamfioeaaDoor.RpfSaysL
