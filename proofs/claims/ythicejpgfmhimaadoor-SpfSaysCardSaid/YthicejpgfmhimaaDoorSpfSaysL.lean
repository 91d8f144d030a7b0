/- SpfSays: for all arguments, the functions of package spf return what the document specifies: for every input, the row's handle laid as the card says. -/
import Derived.Test.YthicejpgfmhimaaDoorCards
import Derived.Test.YthicejpgfmhimaaDoorTie
import Derived.Deep.DeepHandedRow
import Derived.Lib.LaidTab
import Derived.LaidHandle
import Derived.SevenTiedAt
import Derived.Test.YthicejpgfmhimaaDoorSpfRef
import Derived.Test.YthicejpgfmhimaaDoorSpf8
import Derived.Test.YthicejpgfmhimaaDoorSame
import Derived.Test.YthicejpgfmhimaaDoorErrSame
import Derived.Test.YthicejpgfmhimaaDoorIn3
namespace Go.Proofs.YthicejpgfmhimaaDoor.SpfSaysL
open Go.ChangeShapes Go.WideShapes Go.ChangeAt Go.RowKit Go.Proofs.YthicejpgfmhimaaDoor.Kit Go.Proofs.YthicejpgfmhimaaDoor.App Go.Proofs.YthicejpgfmhimaaDoor.Cells Go.Proofs.YthicejpgfmhimaaDoor.Err Go.Proofs.YthicejpgfmhimaaDoor.Vector Go.Proofs.YthicejpgfmhimaaDoor.Spf Go.Proofs.YthicejpgfmhimaaDoor.As
set_option linter.unusedVariables false
set_option maxRecDepth 20000
set_option maxHeartbeats 4000000

abbrev Law (n : Int) (p : Option Addr) (m cap : Nat) (s t : Int) (w : World) : Prop := Calls Tryd.prog 3 #[.int .i64 n, .slice p m cap, .int .i64 s, .int .i64 t] w fun e w' => e = .returned (.bool true) ∧ Below w.heap.size w w'
theorem ints_nil (W : World) : Ints W none 0 [] := ints_none W _ _ _ (by unfold maxLen; omega) rfl
theorem none_same (W : World) : Calls Tryd.prog 10 #[.slice none 0 0, .slice none 0 0] W fun e w' => e = .returned (.bool true) ∧ Below W.heap.size W w' := ints_any none none 0 0 0 0 [] [] W rfl rfl (ints_nil W) (ints_nil W) true (by decide)
theorem wrong_more {n s t : Int} {ls : List Lk} (h : wrong n ls [s] ≠ 0) : wrong n ls [s, t] = wrong n ls [s] := by
  unfold wrong at h ⊢
  by_cases h0 : code n ls = 0
  · rw [if_pos h0] at h ⊢
    rw [if_pos h0]
    unfold outs at h ⊢
    by_cases h1 : s < 0 ∨ n ≤ s
    · rw [if_pos h1, if_pos h1]
    · rw [if_neg h1] at h
      exact absurd rfl h
  · rw [if_neg h0, if_neg h0]
theorem law_bad (n s t : Int) (p : Option Addr) (m cap : Nat) (ls : List Lk) (w : World) (hH : Handle w) (hm : m = ls.length) (hi : CI layL w p cap ls) (hs : (Lit.int .i64 s).wf = true) (ht : (Lit.int .i64 t).wf = true) (c : Int) (hc : code n ls = c) (h0 : c ≠ 0) : Law n p m cap s t w := by
  have hw : wrong n ls [s] = c := by unfold wrong; rw [hc, if_neg h0]
  have hw2 : wrong n ls [s, t] = c := by unfold wrong; rw [hc, if_neg h0]
  have D1 := Lib.hid (rlinks_any n p cap m ls w hm hi c hc)
  have FR := Lib.hid (fun W (hW : Below w.heap.size w W) => from_bad n s p cap m ls W hm (hi.below hW) hs c hw h0)
  have WY := Lib.hid (fun W (hW : Below w.heap.size w W) => way_bad n s t p cap m ls W hm (hi.below hW) hs ht c hw2 h0)
  have E1 := Lib.hid (fun W (hb : Below w.heap.size w W) => err_same c W (hH.below hb))
  have t0 : (c == 0) = false := by rw [beq_eq_false_iff_ne]; exact h0
  clear hm hi hs ht hc h0 hH hw hw2
  generalize er c = V at E1 FR WY
  unfold Law
  go_enter Tryd.func3, Tryd.ntmps3
  go_wp2_with fail
  refine D1.out.mono ?_; rintro e w1 ⟨rfl, hb⟩
  have HB1 := Lib.hid hb
  clear hb D1
  go_wp2_with fail
  refine (FR.out w1 HB1.out).mono ?_; rintro e w2 ⟨rfl, hb⟩
  have HB2 := Lib.hid (bcall HB1.out hb)
  clear FR HB1 hb
  go_wp2_with fail
  refine (E1.out w2 HB2.out).mono ?_; rintro e w3 ⟨rfl, hb⟩
  have HB3 := Lib.hid (bcall HB2.out hb)
  clear HB2 hb
  go_wp2_with fail
  refine (none_same w3).mono ?_; rintro e w4 ⟨rfl, hb⟩
  have HB4 := Lib.hid (bcall HB3.out hb)
  clear HB3 hb
  go_wp2_with fail
  refine (none_same w4).mono ?_; rintro e w5 ⟨rfl, hb⟩
  have HB5 := Lib.hid (bcall HB4.out hb)
  clear HB4 hb
  go_wp2_with fail
  refine (WY.out w5 HB5.out).mono ?_; rintro e w6 ⟨rfl, hb⟩
  have HB6 := Lib.hid (bcall HB5.out hb)
  clear WY HB5 hb
  go_wp2_with fail
  refine (E1.out w6 HB6.out).mono ?_; rintro e w7 ⟨rfl, hb⟩
  have HB7 := Lib.hid (bcall HB6.out hb)
  clear HB6 hb
  go_wp2_with fail
  refine (none_same w7).mono ?_; rintro e w8 ⟨rfl, hb⟩
  have HB8 := Lib.hid (bcall HB7.out hb)
  clear HB7 hb
  go_wp2_with fail
  go_ret
  exact ⟨by first | rfl | simp, HB8.out⟩
theorem law_off (n : Nat) (s t : Int) (p : Option Addr) (m cap : Nat) (ls : List Lk) (w : World) (hH : Handle w) (hm : m = ls.length) (hi : CI layL w p cap ls) (hs : (Lit.int .i64 s).wf = true) (ht : (Lit.int .i64 t).wf = true) (g : Vector.Good n ls) (hso : ¬ (0 ≤ s ∧ s ≤ (n : Int) - 1)) : Law n p m cap s t w := by
  have hw : wrong (n : Int) ls [s] = 1 := by
    unfold wrong
    rw [if_pos (code_good g)]
    unfold outs
    rw [if_pos (by omega)]
  have hw2 : wrong (n : Int) ls [s, t] = 1 := by rw [wrong_more (by rw [hw]; decide), hw]
  have D1 := Lib.hid (rlinks_any (n : Int) p cap m ls w hm hi 0 (code_good g))
  have FR := Lib.hid (fun W (hW : Below w.heap.size w W) => from_bad (n : Int) s p cap m ls W hm (hi.below hW) hs 1 hw (by decide))
  have WY := Lib.hid (fun W (hW : Below w.heap.size w W) => way_bad (n : Int) s t p cap m ls W hm (hi.below hW) hs ht 1 hw2 (by decide))
  have E1 := Lib.hid (fun W (hb : Below w.heap.size w W) => err_same 1 W (hH.below hb))
  have hn8 := g.up
  have hw1 : IntKind.i64.wrap ((n : Int) - 1) = (n : Int) - 1 := wrap_in (n := (n : Int) - 1) ⟨by omega, by omega⟩
  have IN := Lib.hid (fun W => Drr.in_any s 0 ((n : Int) - 1) W false (in_false hso))
  clear hm hi hs ht g hso hH hw hw2
  generalize er 1 = V at E1 FR WY
  unfold Law
  go_enter Tryd.func3, Tryd.ntmps3
  go_wp2_with fail
  refine D1.out.mono ?_; rintro e w1 ⟨rfl, hb⟩
  have HB1 := Lib.hid hb
  clear hb D1
  go_wp2_with fail
  refine (IN.out w1).mono ?_; rintro e w2 ⟨rfl, hw2⟩
  rw [hw2]
  clear hw2 w2 IN hw1
  go_wp2_with fail
  refine (FR.out w1 HB1.out).mono ?_; rintro e w2 ⟨rfl, hb⟩
  have HB2 := Lib.hid (bcall HB1.out hb)
  clear FR HB1 hb
  go_wp2_with fail
  refine (E1.out w2 HB2.out).mono ?_; rintro e w3 ⟨rfl, hb⟩
  have HB3 := Lib.hid (bcall HB2.out hb)
  clear HB2 hb
  go_wp2_with fail
  refine (none_same w3).mono ?_; rintro e w4 ⟨rfl, hb⟩
  have HB4 := Lib.hid (bcall HB3.out hb)
  clear HB3 hb
  go_wp2_with fail
  refine (none_same w4).mono ?_; rintro e w5 ⟨rfl, hb⟩
  have HB5 := Lib.hid (bcall HB4.out hb)
  clear HB4 hb
  go_wp2_with fail
  refine (WY.out w5 HB5.out).mono ?_; rintro e w6 ⟨rfl, hb⟩
  have HB6 := Lib.hid (bcall HB5.out hb)
  clear WY HB5 hb
  go_wp2_with fail
  refine (E1.out w6 HB6.out).mono ?_; rintro e w7 ⟨rfl, hb⟩
  have HB7 := Lib.hid (bcall HB6.out hb)
  clear HB6 hb
  go_wp2_with fail
  refine (none_same w7).mono ?_; rintro e w8 ⟨rfl, hb⟩
  have HB8 := Lib.hid (bcall HB7.out hb)
  clear HB7 hb
  go_wp2_with fail
  go_ret
  exact ⟨by first | rfl | simp, HB8.out⟩
theorem law_out (n s : Nat) (t : Int) (p : Option Addr) (m cap : Nat) (ls : List Lk) (w : World) (hH : Handle w) (hm : m = ls.length) (hi : CI layL w p cap ls) (g : Vector.Good n ls) (hs : s < n) (ht : (Lit.int .i64 t).wf = true) (hto : ¬ (0 ≤ t ∧ t ≤ (n : Int) - 1)) : Law n p m cap s t w := by
  have hn8 := g.up
  have hws : (Lit.int .i64 (s : Int)).wf = true := by simp [Lit.wf, IntKind.min, IntKind.max, IntKind.signed, IntKind.bits]; omega
  have hw1 : IntKind.i64.wrap ((n : Int) - 1) = (n : Int) - 1 := wrap_in (n := (n : Int) - 1) ⟨by omega, by omega⟩
  have D1 := Lib.hid (rlinks_any (n : Int) p cap m ls w hm hi 0 (code_good g))
  have INS := Lib.hid (fun W => Drr.in_any (s : Int) 0 ((n : Int) - 1) W true (in_true ⟨by omega, by omega⟩))
  have FF := Lib.hid (fun W (hW : Below w.heap.size w W) => rfar_ds n s p cap m ls W g hm (hi.below hW) hs)
  have HO := Lib.hid (fun W (hW : Below w.heap.size w W) i j (hin : i < n) (hjn : j < n) => rhop_any n i j p cap m ls W g hm (hi.below hW) hin hjn)
  have FR := Lib.hid (fun W (hW : Below w.heap.size w W) => from_good n s p cap m ls W hm (hi.below hW) g hs)
  have E0 := Lib.hid (fun W (hb : Below w.heap.size w W) => err_same 0 W (hH.below hb))
  rw [er_0] at E0
  have HG := Lib.hid g
  have HS := Lib.hid hs
  have hw2 : wrong (n : Int) ls [(s : Int), t] = 1 := by
    unfold wrong
    rw [if_pos (code_good g)]
    unfold outs outs
    rw [if_neg (by omega), if_pos (by omega)]
  have WY := Lib.hid (fun W (hW : Below w.heap.size w W) => way_bad (n : Int) (s : Int) t p cap m ls W hm (hi.below hW) hws ht 1 hw2 (by decide))
  have E1 := Lib.hid (fun W (hb : Below w.heap.size w W) => err_same 1 W (hH.below hb))
  have INT := Lib.hid (fun W => Drr.in_any t 0 ((n : Int) - 1) W false (in_false hto))
  clear hm hi hws ht g hs hto hH hw2
  generalize er 1 = V at E1 WY
  unfold Law
  go_enter Tryd.func3, Tryd.ntmps3
  go_wp2_with fail
  refine D1.out.mono ?_; rintro e w1 ⟨rfl, hb⟩
  have HB1 := Lib.hid hb
  clear hb D1
  go_wp2_with fail
  refine (INS.out w1).mono ?_; rintro e w2 ⟨rfl, hw2⟩
  rw [hw2]
  clear hw2 w2 INS
  go_wp2_with fail
  refine (FF.out w1 HB1.out).mono ?_; rintro e w2 ⟨q2, c2, rfl, i2, hb⟩
  have HB2 := Lib.hid (bcall HB1.out hb)
  have HI2 := Lib.hid i2
  clear hb i2 FF HB1
  have HO0 : Hid (OwnI w2 w2.heap.size (.slice none 0 0) ((rw1 n (hop ls s)).take 0)) := Lib.hid (OwnI.nil _ _)
  go_wp2_with fail
  go_loopw [11, 12] (fun ov iv wr => ∃ i : Nat, i ≤ n ∧ iv = .int .i64 i ∧ Hid (OwnI wr w2.heap.size ov ((rw1 n (hop ls s)).take i)) ∧ Hid (Below w2.heap.size w2 wr)) (fun _ i _ => n - (intOf i).toNat)
  case atStart => exact ⟨0, Nat.zero_le _, rfl, HO0, Lib.hid (brefl _)⟩
  case round =>
    obtain ⟨i, hin, rfl, HOW, HQ⟩ := hrel
    clear HO0
    by_cases hlt : i < n
    · have v0 : decide ((i : Int) < (n : Int)) = true := decide_eq_true (by omega)
      have P1 := Lib.hid (HO.out wr (bcall HB2.out HQ.out) s i HS.out hlt)
      have HTK := Lib.hid (rw1_take (f := hop ls s) hlt)
      have HLN := Lib.hid (rw1_tlen (f := hop ls s) hin)
      have HWF := Lib.hid (wf_hop (hop_b HG.out s i))
      obtain ⟨pe, ce, hev, _⟩ := HOW.out.form
      rw [HLN.out] at hev
      subst hev
      generalize hop ls s i = h at P1 HTK HWF
      go_wp2_with fail
      refine P1.out.mono ?_; rintro e w6 ⟨rfl, hb⟩
      have HQ6 := Lib.hid (bcall HQ.out hb)
      have HO6 := Lib.hid (HOW.out.below hb)
      have hsz := HQ6.out.size
      clear P1 hb HOW HQ
      go_wp2_with (at_builtin
                   refine wp_app rfl (.tmp 43) (.tmp 49) rfl w2.heap.size _ ((rw1 n (hop ls s)).take i) (some ⟨w6.heap.size, 0, none⟩) 1 1 [h] rfl (HO6.out.alloc _) rfl rfl (Ints.one w6 h HWF.out) (by rw [HLN.out, List.length_singleton]; omega) (Nat.le_trans hsz (by simp)) ?_
                   intro v8 w8 hown8 hg8 hat8
                   have HO8 := Lib.hid (show OwnI w8 w2.heap.size v8 ((rw1 n (hop ls s)).take (i + 1)) by rw [HTK.out]; exact hown8)
                   have HB8 := Lib.hid (show Below w2.heap.size w2 w8 from below_one HQ6.out hsz _ HO6.out hg8)
                   clear hown8 hg8 hat8)
      go_roundw
      case rel => exact ⟨i + 1, by omega, by first | rfl | go_num, HO8, HB8⟩
      case measure => simp [intOf]; omega
    · obtain rfl : i = n := by omega
      have v0 : decide ((i : Int) < (i : Int)) = false := decide_eq_false (by omega)
      have ho := HOW.out
      rw [rw1_full] at ho
      obtain ⟨pe, ce, rfl, ie⟩ := ho.form
      have HIH := Lib.hid ie
      have HIF := Lib.hid (HI2.out.below HQ.out)
      have HB5 := Lib.hid (bcall HB2.out HQ.out)
      rw [rw1_len]
      clear ho ie HOW HQ HI2 HB2
      go_wp2_with fail
      refine (FR.out wr HB5.out).mono ?_; rintro e w6 ⟨u, v, rfl, hu, hv, hb⟩
      have HB6 := Lib.hid (bcall HB5.out hb)
      have HIH6 := Lib.hid (HIH.out.below hb)
      have HIF6 := Lib.hid (HIF.out.below hb)
      obtain ⟨pu, cu, rfl, iu⟩ := hu
      obtain ⟨pv, cv, rfl, iv⟩ := hv
      have IU := Lib.hid iu
      have IV := Lib.hid iv
      rw [rw1_len, rw1_len]
      clear FR hb iu iv HIH HIF HB5 v0
      go_wp2_with fail
      refine (E0.out w6 HB6.out).mono ?_; rintro e w7 ⟨rfl, hb⟩
      have HB7 := Lib.hid (bcall HB6.out hb)
      have IV7 := Lib.hid (IV.out.below hb)
      have HIH7 := Lib.hid (HIH6.out.below hb)
      have HIF7 := Lib.hid (HIF6.out.below hb)
      have SM1 := Lib.hid (ints_any pu q2 cu c2 i i (rw1 i (ds ls s)) (rw1 i (ds ls s)) w7 (by rw [rw1_len]) (by rw [rw1_len]) (IU.out.below hb) HIF7.out true (by simp))
      clear hb HB6 IU IV HIH6 HIF6
      go_wp2_with fail
      refine SM1.out.mono ?_; rintro e w8 ⟨rfl, hb⟩
      have HB8 := Lib.hid (bcall HB7.out hb)
      have HIF8 := Lib.hid (HIF7.out.below hb)
      have SM2 := Lib.hid (ints_any pv pe cv ce i i (rw1 i (hop ls s)) (rw1 i (hop ls s)) w8 (by rw [rw1_len]) (by rw [rw1_len]) (IV7.out.below hb) (HIH7.out.below hb) true (by simp))
      clear hb SM1 HB7 IV7 HIH7 HIF7
      go_wp2_with fail
      refine SM2.out.mono ?_; rintro e w9 ⟨rfl, hb⟩
      have HB9 := Lib.hid (bcall HB8.out hb)
      have HIF9 := Lib.hid (HIF8.out.below hb)
      clear hb SM2 HB8 HIF8
      go_wp2_with fail
      refine (INT.out w9).mono ?_; rintro e w10 ⟨rfl, hw10⟩
      rw [hw10]
      clear hw10 w10 INT hw1
      go_wp2_with fail
      refine (WY.out w9 HB9.out).mono ?_; rintro e w10 ⟨rfl, hb⟩
      have HB10 := Lib.hid (bcall HB9.out hb)
      clear WY HB9 hb
      go_wp2_with fail
      refine (E1.out w10 HB10.out).mono ?_; rintro e w11 ⟨rfl, hb⟩
      have HB11 := Lib.hid (bcall HB10.out hb)
      clear HB10 hb
      go_wp2_with fail
      refine (none_same w11).mono ?_; rintro e w12 ⟨rfl, hb⟩
      have HB12 := Lib.hid (bcall HB11.out hb)
      clear HB11 hb
      go_wp2_with fail
      go_ret
      exact ⟨by first | rfl | simp, HB12.out⟩
theorem law_far (n s t : Nat) (p : Option Addr) (m cap : Nat) (ls : List Lk) (w : World) (hH : Handle w) (hm : m = ls.length) (hi : CI layL w p cap ls) (g : Vector.Good n ls) (hs : s < n) (ht : t < n) (hd : ds ls s t = 1000) : Law n p m cap s t w := by
  have hn8 := g.up
  have hws : (Lit.int .i64 (s : Int)).wf = true := by simp [Lit.wf, IntKind.min, IntKind.max, IntKind.signed, IntKind.bits]; omega
  have hw1 : IntKind.i64.wrap ((n : Int) - 1) = (n : Int) - 1 := wrap_in (n := (n : Int) - 1) ⟨by omega, by omega⟩
  have D1 := Lib.hid (rlinks_any (n : Int) p cap m ls w hm hi 0 (code_good g))
  have INS := Lib.hid (fun W => Drr.in_any (s : Int) 0 ((n : Int) - 1) W true (in_true ⟨by omega, by omega⟩))
  have FF := Lib.hid (fun W (hW : Below w.heap.size w W) => rfar_ds n s p cap m ls W g hm (hi.below hW) hs)
  have HO := Lib.hid (fun W (hW : Below w.heap.size w W) i j (hin : i < n) (hjn : j < n) => rhop_any n i j p cap m ls W g hm (hi.below hW) hin hjn)
  have FR := Lib.hid (fun W (hW : Below w.heap.size w W) => from_good n s p cap m ls W hm (hi.below hW) g hs)
  have E0 := Lib.hid (fun W (hb : Below w.heap.size w W) => err_same 0 W (hH.below hb))
  rw [er_0] at E0
  have HG := Lib.hid g
  have HS := Lib.hid hs
  have WY := Lib.hid (fun W (hW : Below w.heap.size w W) => way_good n s t p cap m ls W hm (hi.below hW) g hs ht 5 [] (.inl ⟨rfl, hd, fun e => by subst e; rw [ds_self g] at hd; omega, rfl⟩))
  have E5 := Lib.hid (fun W (hb : Below w.heap.size w W) => err_same 5 W (hH.below hb))
  have INT := Lib.hid (fun W => Drr.in_any (t : Int) 0 ((n : Int) - 1) W true (in_true ⟨by omega, by omega⟩))
  have HT := Lib.hid ht
  have HD := Lib.hid hd
  have ht' : (t : Int) < (n : Int) := by omega
  clear hm hi hws ht g hs hH hd
  generalize er 5 = V at E5 WY
  unfold Law
  go_enter Tryd.func3, Tryd.ntmps3
  go_wp2_with fail
  refine D1.out.mono ?_; rintro e w1 ⟨rfl, hb⟩
  have HB1 := Lib.hid hb
  clear hb D1
  go_wp2_with fail
  refine (INS.out w1).mono ?_; rintro e w2 ⟨rfl, hw2⟩
  rw [hw2]
  clear hw2 w2 INS
  go_wp2_with fail
  refine (FF.out w1 HB1.out).mono ?_; rintro e w2 ⟨q2, c2, rfl, i2, hb⟩
  have HB2 := Lib.hid (bcall HB1.out hb)
  have HI2 := Lib.hid i2
  clear hb i2 FF HB1
  have HO0 : Hid (OwnI w2 w2.heap.size (.slice none 0 0) ((rw1 n (hop ls s)).take 0)) := Lib.hid (OwnI.nil _ _)
  go_wp2_with fail
  go_loopw [11, 12] (fun ov iv wr => ∃ i : Nat, i ≤ n ∧ iv = .int .i64 i ∧ Hid (OwnI wr w2.heap.size ov ((rw1 n (hop ls s)).take i)) ∧ Hid (Below w2.heap.size w2 wr)) (fun _ i _ => n - (intOf i).toNat)
  case atStart => exact ⟨0, Nat.zero_le _, rfl, HO0, Lib.hid (brefl _)⟩
  case round =>
    obtain ⟨i, hin, rfl, HOW, HQ⟩ := hrel
    clear HO0
    by_cases hlt : i < n
    · have v0 : decide ((i : Int) < (n : Int)) = true := decide_eq_true (by omega)
      have P1 := Lib.hid (HO.out wr (bcall HB2.out HQ.out) s i HS.out hlt)
      have HTK := Lib.hid (rw1_take (f := hop ls s) hlt)
      have HLN := Lib.hid (rw1_tlen (f := hop ls s) hin)
      have HWF := Lib.hid (wf_hop (hop_b HG.out s i))
      obtain ⟨pe, ce, hev, _⟩ := HOW.out.form
      rw [HLN.out] at hev
      subst hev
      generalize hop ls s i = h at P1 HTK HWF
      go_wp2_with fail
      refine P1.out.mono ?_; rintro e w6 ⟨rfl, hb⟩
      have HQ6 := Lib.hid (bcall HQ.out hb)
      have HO6 := Lib.hid (HOW.out.below hb)
      have hsz := HQ6.out.size
      clear P1 hb HOW HQ
      go_wp2_with (at_builtin
                   refine wp_app rfl (.tmp 43) (.tmp 49) rfl w2.heap.size _ ((rw1 n (hop ls s)).take i) (some ⟨w6.heap.size, 0, none⟩) 1 1 [h] rfl (HO6.out.alloc _) rfl rfl (Ints.one w6 h HWF.out) (by rw [HLN.out, List.length_singleton]; omega) (Nat.le_trans hsz (by simp)) ?_
                   intro v8 w8 hown8 hg8 hat8
                   have HO8 := Lib.hid (show OwnI w8 w2.heap.size v8 ((rw1 n (hop ls s)).take (i + 1)) by rw [HTK.out]; exact hown8)
                   have HB8 := Lib.hid (show Below w2.heap.size w2 w8 from below_one HQ6.out hsz _ HO6.out hg8)
                   clear hown8 hg8 hat8)
      go_roundw
      case rel => exact ⟨i + 1, by omega, by first | rfl | go_num, HO8, HB8⟩
      case measure => simp [intOf]; omega
    · obtain rfl : i = n := by omega
      have v0 : decide ((i : Int) < (i : Int)) = false := decide_eq_false (by omega)
      have ho := HOW.out
      rw [rw1_full] at ho
      obtain ⟨pe, ce, rfl, ie⟩ := ho.form
      have HIH := Lib.hid ie
      have HIF := Lib.hid (HI2.out.below HQ.out)
      have HB5 := Lib.hid (bcall HB2.out HQ.out)
      rw [rw1_len]
      clear ho ie HOW HQ HI2 HB2
      go_wp2_with fail
      refine (FR.out wr HB5.out).mono ?_; rintro e w6 ⟨u, v, rfl, hu, hv, hb⟩
      have HB6 := Lib.hid (bcall HB5.out hb)
      have HIH6 := Lib.hid (HIH.out.below hb)
      have HIF6 := Lib.hid (HIF.out.below hb)
      obtain ⟨pu, cu, rfl, iu⟩ := hu
      obtain ⟨pv, cv, rfl, iv⟩ := hv
      have IU := Lib.hid iu
      have IV := Lib.hid iv
      rw [rw1_len, rw1_len]
      clear FR hb iu iv HIH HIF HB5 v0
      go_wp2_with fail
      refine (E0.out w6 HB6.out).mono ?_; rintro e w7 ⟨rfl, hb⟩
      have HB7 := Lib.hid (bcall HB6.out hb)
      have IV7 := Lib.hid (IV.out.below hb)
      have HIH7 := Lib.hid (HIH6.out.below hb)
      have HIF7 := Lib.hid (HIF6.out.below hb)
      have SM1 := Lib.hid (ints_any pu q2 cu c2 i i (rw1 i (ds ls s)) (rw1 i (ds ls s)) w7 (by rw [rw1_len]) (by rw [rw1_len]) (IU.out.below hb) HIF7.out true (by simp))
      clear hb HB6 IU IV HIH6 HIF6
      go_wp2_with fail
      refine SM1.out.mono ?_; rintro e w8 ⟨rfl, hb⟩
      have HB8 := Lib.hid (bcall HB7.out hb)
      have HIF8 := Lib.hid (HIF7.out.below hb)
      have SM2 := Lib.hid (ints_any pv pe cv ce i i (rw1 i (hop ls s)) (rw1 i (hop ls s)) w8 (by rw [rw1_len]) (by rw [rw1_len]) (IV7.out.below hb) (HIH7.out.below hb) true (by simp))
      clear hb SM1 HB7 IV7 HIH7 HIF7
      go_wp2_with fail
      refine SM2.out.mono ?_; rintro e w9 ⟨rfl, hb⟩
      have HB9 := Lib.hid (bcall HB8.out hb)
      have HIF9 := Lib.hid (HIF8.out.below hb)
      clear hb SM2 HB8 HIF8
      go_wp2_with fail
      refine (INT.out w9).mono ?_; rintro e w10 ⟨rfl, hw10⟩
      rw [hw10]
      clear hw10 w10 INT hw1
      obtain ⟨b, off, hq, hlt2, hcell⟩ := HIF9.out.2.2.2 (by rw [rw1_len]; have := HS.out; omega)
      subst hq
      have cf := hcell t (by rw [rw1_len]; exact HT.out)
      rw [rw1_get _ _ HT.out] at cf
      clear hlt2 hcell HIF9
      rw [HD.out] at cf
      go_wp2_with fail
      refine (WY.out w9 HB9.out).mono ?_; rintro e w10 ⟨v, rfl, hv, hb⟩
      have HB10 := Lib.hid (bcall HB9.out hb)
      obtain ⟨pl, cl, rfl, il⟩ := hv
      have IL := Lib.hid il
      rw [show (ints []).length = 0 from rfl]
      clear WY HB9 hb il
      go_wp2_with fail
      refine (E5.out w10 HB10.out).mono ?_; rintro e w11 ⟨rfl, hb⟩
      have HB11 := Lib.hid (bcall HB10.out hb)
      have SM3 := Lib.hid (ints_any pl none cl 0 0 0 [] [] w11 rfl rfl (IL.out.below hb) (ints_nil w11) true (by decide))
      clear HB10 hb IL
      go_wp2_with fail
      refine SM3.out.mono ?_; rintro e w12 ⟨rfl, hb⟩
      have HB12 := Lib.hid (bcall HB11.out hb)
      clear HB11 hb
      go_wp2_with fail
      go_ret
      exact ⟨by first | rfl | simp, HB12.out⟩
theorem law_way (n s t : Nat) (p : Option Addr) (m cap : Nat) (ls : List Lk) (w : World) (hH : Handle w) (hm : m = ls.length) (hi : CI layL w p cap ls) (g : Vector.Good n ls) (hs : s < n) (ht : t < n) (L : List Nat) (hT : Trail ls t s L) : Law n p m cap s t w := by
  have hn8 := g.up
  have hws : (Lit.int .i64 (s : Int)).wf = true := by simp [Lit.wf, IntKind.min, IntKind.max, IntKind.signed, IntKind.bits]; omega
  have hw1 : IntKind.i64.wrap ((n : Int) - 1) = (n : Int) - 1 := wrap_in (n := (n : Int) - 1) ⟨by omega, by omega⟩
  have D1 := Lib.hid (rlinks_any (n : Int) p cap m ls w hm hi 0 (code_good g))
  have INS := Lib.hid (fun W => Drr.in_any (s : Int) 0 ((n : Int) - 1) W true (in_true ⟨by omega, by omega⟩))
  have FF := Lib.hid (fun W (hW : Below w.heap.size w W) => rfar_ds n s p cap m ls W g hm (hi.below hW) hs)
  have HO := Lib.hid (fun W (hW : Below w.heap.size w W) i j (hin : i < n) (hjn : j < n) => rhop_any n i j p cap m ls W g hm (hi.below hW) hin hjn)
  have FR := Lib.hid (fun W (hW : Below w.heap.size w W) => from_good n s p cap m ls W hm (hi.below hW) g hs)
  have E0 := Lib.hid (fun W (hb : Below w.heap.size w W) => err_same 0 W (hH.below hb))
  rw [er_0] at E0
  have HG := Lib.hid g
  have HS := Lib.hid hs
  have hd := hT.near g
  have WY := Lib.hid (fun W (hW : Below w.heap.size w W) => way_good n s t p cap m ls W hm (hi.below hW) g hs ht 0 L (.inr ⟨rfl, hd, hT⟩))
  rw [er_0] at WY
  have INT := Lib.hid (fun W => Drr.in_any (t : Int) 0 ((n : Int) - 1) W true (in_true ⟨by omega, by omega⟩))
  have HT := Lib.hid ht
  have hf0 : (ds ls s t == 1000) = false := beq_eq_false_iff_ne.2 hd
  have ht' : (t : Int) < (n : Int) := by omega
  have HTR := Lib.hid hT
  have HWN := Lib.hid (fun (x : Nat) (hx : x < n) => (show (Lit.int .i64 (x : Int)).wf = true by simp [Lit.wf, IntKind.min, IntKind.max, IntKind.signed, IntKind.bits]; omega))
  clear hm hi hws ht g hs hH hd hT
  unfold Law
  go_enter Tryd.func3, Tryd.ntmps3
  go_wp2_with fail
  refine D1.out.mono ?_; rintro e w1 ⟨rfl, hb⟩
  have HB1 := Lib.hid hb
  clear hb D1
  go_wp2_with fail
  refine (INS.out w1).mono ?_; rintro e w2 ⟨rfl, hw2⟩
  rw [hw2]
  clear hw2 w2 INS
  go_wp2_with fail
  refine (FF.out w1 HB1.out).mono ?_; rintro e w2 ⟨q2, c2, rfl, i2, hb⟩
  have HB2 := Lib.hid (bcall HB1.out hb)
  have HI2 := Lib.hid i2
  clear hb i2 FF HB1
  have HO0 : Hid (OwnI w2 w2.heap.size (.slice none 0 0) ((rw1 n (hop ls s)).take 0)) := Lib.hid (OwnI.nil _ _)
  go_wp2_with fail
  go_loopw [11, 12] (fun ov iv wr => ∃ i : Nat, i ≤ n ∧ iv = .int .i64 i ∧ Hid (OwnI wr w2.heap.size ov ((rw1 n (hop ls s)).take i)) ∧ Hid (Below w2.heap.size w2 wr)) (fun _ i _ => n - (intOf i).toNat)
  case atStart => exact ⟨0, Nat.zero_le _, rfl, HO0, Lib.hid (brefl _)⟩
  case round =>
    obtain ⟨i, hin, rfl, HOW, HQ⟩ := hrel
    clear HO0
    by_cases hlt : i < n
    · have v0 : decide ((i : Int) < (n : Int)) = true := decide_eq_true (by omega)
      have P1 := Lib.hid (HO.out wr (bcall HB2.out HQ.out) s i HS.out hlt)
      have HTK := Lib.hid (rw1_take (f := hop ls s) hlt)
      have HLN := Lib.hid (rw1_tlen (f := hop ls s) hin)
      have HWF := Lib.hid (wf_hop (hop_b HG.out s i))
      obtain ⟨pe, ce, hev, _⟩ := HOW.out.form
      rw [HLN.out] at hev
      subst hev
      generalize hop ls s i = h at P1 HTK HWF
      go_wp2_with fail
      refine P1.out.mono ?_; rintro e w6 ⟨rfl, hb⟩
      have HQ6 := Lib.hid (bcall HQ.out hb)
      have HO6 := Lib.hid (HOW.out.below hb)
      have hsz := HQ6.out.size
      clear P1 hb HOW HQ
      go_wp2_with (at_builtin
                   refine wp_app rfl (.tmp 43) (.tmp 49) rfl w2.heap.size _ ((rw1 n (hop ls s)).take i) (some ⟨w6.heap.size, 0, none⟩) 1 1 [h] rfl (HO6.out.alloc _) rfl rfl (Ints.one w6 h HWF.out) (by rw [HLN.out, List.length_singleton]; omega) (Nat.le_trans hsz (by simp)) ?_
                   intro v8 w8 hown8 hg8 hat8
                   have HO8 := Lib.hid (show OwnI w8 w2.heap.size v8 ((rw1 n (hop ls s)).take (i + 1)) by rw [HTK.out]; exact hown8)
                   have HB8 := Lib.hid (show Below w2.heap.size w2 w8 from below_one HQ6.out hsz _ HO6.out hg8)
                   clear hown8 hg8 hat8)
      go_roundw
      case rel => exact ⟨i + 1, by omega, by first | rfl | go_num, HO8, HB8⟩
      case measure => simp [intOf]; omega
    · obtain rfl : i = n := by omega
      have v0 : decide ((i : Int) < (i : Int)) = false := decide_eq_false (by omega)
      have ho := HOW.out
      rw [rw1_full] at ho
      obtain ⟨pe, ce, rfl, ie⟩ := ho.form
      have HIH := Lib.hid ie
      have HIF := Lib.hid (HI2.out.below HQ.out)
      have HB5 := Lib.hid (bcall HB2.out HQ.out)
      rw [rw1_len]
      clear ho ie HOW HQ HI2 HB2
      go_wp2_with fail
      refine (FR.out wr HB5.out).mono ?_; rintro e w6 ⟨u, v, rfl, hu, hv, hb⟩
      have HB6 := Lib.hid (bcall HB5.out hb)
      have HIH6 := Lib.hid (HIH.out.below hb)
      have HIF6 := Lib.hid (HIF.out.below hb)
      obtain ⟨pu, cu, rfl, iu⟩ := hu
      obtain ⟨pv, cv, rfl, iv⟩ := hv
      have IU := Lib.hid iu
      have IV := Lib.hid iv
      rw [rw1_len, rw1_len]
      clear FR hb iu iv HIH HIF HB5 v0
      go_wp2_with fail
      refine (E0.out w6 HB6.out).mono ?_; rintro e w7 ⟨rfl, hb⟩
      have HB7 := Lib.hid (bcall HB6.out hb)
      have IV7 := Lib.hid (IV.out.below hb)
      have HIH7 := Lib.hid (HIH6.out.below hb)
      have HIF7 := Lib.hid (HIF6.out.below hb)
      have SM1 := Lib.hid (ints_any pu q2 cu c2 i i (rw1 i (ds ls s)) (rw1 i (ds ls s)) w7 (by rw [rw1_len]) (by rw [rw1_len]) (IU.out.below hb) HIF7.out true (by simp))
      clear hb HB6 IU IV HIH6 HIF6
      go_wp2_with fail
      refine SM1.out.mono ?_; rintro e w8 ⟨rfl, hb⟩
      have HB8 := Lib.hid (bcall HB7.out hb)
      have HIF8 := Lib.hid (HIF7.out.below hb)
      have SM2 := Lib.hid (ints_any pv pe cv ce i i (rw1 i (hop ls s)) (rw1 i (hop ls s)) w8 (by rw [rw1_len]) (by rw [rw1_len]) (IV7.out.below hb) (HIH7.out.below hb) true (by simp))
      clear hb SM1 HB7 IV7 HIH7 HIF7
      go_wp2_with fail
      refine SM2.out.mono ?_; rintro e w9 ⟨rfl, hb⟩
      have HB9 := Lib.hid (bcall HB8.out hb)
      have HIF9 := Lib.hid (HIF8.out.below hb)
      clear hb SM2 HB8 HIF8
      go_wp2_with fail
      refine (INT.out w9).mono ?_; rintro e w10 ⟨rfl, hw10⟩
      rw [hw10]
      clear hw10 w10 INT hw1
      obtain ⟨b, off, hq, hlt2, hcell⟩ := HIF9.out.2.2.2 (by rw [rw1_len]; have := HS.out; omega)
      subst hq
      have cf := hcell t (by rw [rw1_len]; exact HT.out)
      rw [rw1_get _ _ HT.out] at cf
      clear hlt2 hcell HIF9
      generalize ds ls s t = f at cf hf0
      obtain ⟨tl0, hL0⟩ := HTR.out.head
      have hlen := HTR.out.len HG.out HS.out
      have HLN := Lib.hid (show tl0.length ≤ 7 from by rw [hL0] at hlen; simp only [List.length_cons] at hlen; omega)
      have HT0 := Lib.hid (show Trail ls t s (s :: tl0) by rw [← hL0]; exact HTR.out)
      have HL0 := Lib.hid (show [s] ++ tl0 = L by rw [hL0]; rfl)
      clear hL0 hlen HTR
      have HWS := Lib.hid (HWN.out s HS.out)
      go_wp2_with (at_builtin
                   refine wp_app rfl (.tmp 93) (.tmp 95) rfl w9.heap.size (.slice none 0 0) [] (some ⟨w9.heap.size, 0, none⟩) 1 1 [(s : Int)] rfl (OwnI.nil _ _) rfl rfl (Ints.one w9 s HWS.out) (by simp) (by simp) ?_
                   intro v10 w10 hown10 hg10 hat10
                   have HO10 := Lib.hid (show OwnI w10 w9.heap.size v10 (ints [s]) from by simpa [ints] using hown10)
                   have HB10 := Lib.hid (show Below w9.heap.size w9 w10 from below_one (brefl w9) (Nat.le_refl _) _ (OwnI.nil w9 w9.heap.size) hg10)
                   clear hown10 hg10 hat10)
      clear cf hf0
      go_loopg [17, 18] tl0.length (fun gk ov nv wr => ∃ (j : Nat) (pre tl : List Nat), nv = .int .i64 j ∧ gk = tl.length ∧ pre.length + tl.length ≤ 8 ∧ Hid (j < i) ∧ Hid (Trail ls t j (j :: tl)) ∧ Hid (pre ++ tl = L) ∧ Hid (OwnI wr w9.heap.size ov (ints pre)) ∧ Hid (Below w9.heap.size w9 wr))
      case atStart => exact ⟨s, [s], tl0, rfl, rfl, by have := HLN.out; simp; omega, HS, HT0, HL0, HO10, HB10⟩
      case round =>
        obtain ⟨j, pre, tl, rfl, rfl, hpl, HJ, HTJ, HPL, HOJ, HBJ⟩ := hrel
        clear HO10 HB10 HT0 HL0
        by_cases hit : j = t
        · have u0 : ((j : Int) != (t : Int)) = false := by rw [hit]; simp
          have htl : tl = [] := by
            have h := HTJ.out
            rw [hit] at h
            have := h.uniq .here
            injection this
          have hpre : pre = L := by rw [← HPL.out, htl, List.append_nil]
          obtain ⟨pw, cw, hvw, iw⟩ := HOJ.out.form
          rw [hpre] at hvw iw
          subst hvw
          have IW := Lib.hid iw
          have HB11 := Lib.hid (bcall HB9.out HBJ.out)
          have hkl := ints_len L
          obtain ⟨kl, hkl2⟩ : ∃ kl, (ints L).length = kl := ⟨_, rfl⟩
          have HKL := Lib.hid hkl2
          rw [hkl2]
          clear hit htl iw HOJ HBJ HB9 hpre hkl hkl2
          go_wp2_with fail
          refine (WY.out wr HB11.out).mono ?_; rintro e w12 ⟨v, rfl, hv, hb⟩
          have HB12 := Lib.hid (bcall HB11.out hb)
          have IW12 := Lib.hid (IW.out.below hb)
          obtain ⟨pl, cl, rfl, il⟩ := hv
          have IL := Lib.hid il
          rw [HKL.out]
          clear WY HB11 hb il IW
          go_wp2_with fail
          refine (E0.out w12 HB12.out).mono ?_; rintro e w13 ⟨rfl, hb⟩
          have HB13 := Lib.hid (bcall HB12.out hb)
          have SM3 := Lib.hid (ints_any pl pw cl cw kl kl (ints L) (ints L) w13 HKL.out.symm HKL.out.symm (IL.out.below hb) (IW12.out.below hb) true (by simp))
          clear HB12 hb IL IW12
          go_wp2_with fail
          refine SM3.out.mono ?_; rintro e w14 ⟨rfl, hb⟩
          have HB14 := Lib.hid (bcall HB13.out hb)
          clear HB13 hb
          go_wp2_with fail
          go_ret
          exact ⟨by first | rfl | simp, HB14.out⟩
        · have u0 : ((j : Int) != (t : Int)) = true := by rw [bne_iff_ne]; omega
          obtain ⟨v, tl2, htl, hv, hTR2⟩ : ∃ v tl2, tl = v :: tl2 ∧ hop ls j t = (v : Int) ∧ Trail ls t v (v :: tl2) := by
            cases HTJ.out with
            | here => exact absurd rfl hit
            | @step _ v _ h1 h2 h3 =>
              obtain ⟨tl2, e⟩ := h3.head
              exact ⟨v, tl2, e, h2, by rw [← e]; exact h3⟩
          subst htl
          have hvn : v < i := (co_few HG.out (hop_nb HG.out hv).2.1).2.2.2.1
          have HVN := Lib.hid hvn
          have HTR2 := Lib.hid hTR2
          have P1 := Lib.hid (HO.out wr (bcall HB9.out HBJ.out) j t HJ.out HT.out)
          rw [hv] at P1
          have hpl2 : (pre ++ [v]).length + tl2.length ≤ 8 := by simp only [List.length_cons] at hpl; simp; omega
          have HP2 := Lib.hid (show (pre ++ [v]) ++ tl2 = L by rw [← HPL.out]; simp)
          have HPP := Lib.hid (show ints (pre ++ [v]) = ints pre ++ [(v : Int)] by simp [ints])
          have HPN := Lib.hid (ints_len pre)
          have HPB := Lib.hid (show pre.length ≤ 8 from by omega)
          clear hit hv hvn hTR2
          go_wp2_with fail
          refine P1.out.mono ?_; rintro e w6 ⟨rfl, hb⟩
          have HB7 := Lib.hid (show Below w9.heap.size w9 w6 from bcall HBJ.out hb)
          have HO7 := Lib.hid (HOJ.out.below hb)
          have hsz := HB7.out.size
          obtain ⟨pe2, ce2, hev, _⟩ := HO7.out.form
          rw [HPN.out] at hev
          subst hev
          clear hb P1 HOJ HBJ
          go_wp2_with (at_builtin
                       refine wp_app rfl (.tmp 105) (.tmp 107) rfl w9.heap.size _ (ints pre) (some ⟨w6.heap.size, 0, none⟩) 1 1 [(v : Int)] rfl (HO7.out.alloc _) rfl rfl (Ints.one w6 v (HWN.out v HVN.out)) (by rw [HPN.out, List.length_singleton]; have := HPB.out; omega) (Nat.le_trans hsz (by simp)) ?_
                       intro v8 w8 hown8 hg8 hat8
                       have HO8 := Lib.hid (show OwnI w8 w9.heap.size v8 (ints (pre ++ [v])) by rw [HPP.out]; exact hown8)
                       have HB8 := Lib.hid (show Below w9.heap.size w9 w8 from below_one HB7.out hsz _ HO7.out hg8)
                       clear hown8 hg8 hat8)
          go_roundg tl2.length
          case measure => simp
          case rel => exact ⟨v, pre ++ [v], tl2, rfl, rfl, hpl2, HVN, HTR2, HP2, HO8, HB8⟩
theorem law_any (n s t : Int) (p : Option Addr) (m cap : Nat) (ls : List Lk) (w : World) (hH : Handle w) (hm : m = ls.length) (hi : CI layL w p cap ls) (hs : (Lit.int .i64 s).wf = true) (ht : (Lit.int .i64 t).wf = true) : Law n p m cap s t w := by
  by_cases hc : code n ls = 0
  · obtain ⟨N, rfl, g⟩ := good_of hc
    by_cases h : 0 ≤ s ∧ s ≤ (N : Int) - 1
    · obtain ⟨S, rfl⟩ : ∃ S : Nat, s = (S : Int) := ⟨s.toNat, by omega⟩
      have hS : S < N := by omega
      by_cases h2 : 0 ≤ t ∧ t ≤ (N : Int) - 1
      · obtain ⟨T, rfl⟩ : ∃ T : Nat, t = (T : Int) := ⟨t.toNat, by omega⟩
        have hT : T < N := by omega
        obtain ⟨c, L, hw⟩ := ways_ex g (s := S) hT
        rcases hw with ⟨_, hd, _, _⟩ | ⟨_, _, hTr⟩
        · exact law_far N S T p m cap ls w hH hm hi g hS hT hd
        · exact law_way N S T p m cap ls w hH hm hi g hS hT L hTr
      · exact law_out N S t p m cap ls w hH hm hi g hS ht h2
    · exact law_off N s t p m cap ls w hH hm hi hs ht g h
  · exact law_bad n s t p m cap ls w hH hm hi hs ht _ rfl hc

theorem reads : Tryd.f3.params.toList.all (fun t => Tryd.prog.readableRec t && decide (t < Tryd.prog.types.size)) = true := by kernel_rfl
theorem et : Tryd.prog.globalNamed "errors.errorType" = some 0 := by kernel_rfl
theorem rt : (Tryd.prog.cutTypes.find? (·.1 == "internal/reflectlite.rtype")).map (·.2) = some 74 := by kernel_rfl
theorem oneRow : ((List.range Tryd.prog.types.size).filter fun t => Tryd.prog.rowNamed t [101, 114, 114, 111, 114]) = [29] := by kernel_rfl

theorem handle_of_laid {W : World} (h : laidMetH Tryd.prog Rows.spfSaysRow.laid W) : Handle W := by
  have h' : laidMet Tryd.prog [] W ∧ handlesMet Tryd.prog Rows.spfSaysRow.laid W := h
  obtain ⟨name, u, ty, e1, e2, e3, e4, e5⟩ := h'.2 _ (List.mem_singleton.2 rfl)
  have en : name = [101, 114, 114, 111, 114] := (Option.some.inj e1).symm
  subst en
  obtain rfl := Option.some.inj (rt.symm.trans e2)
  have hm : ty ∈ (List.range Tryd.prog.types.size).filter fun t => Tryd.prog.rowNamed t [101, 114, 114, 111, 114] := List.mem_filter.2 ⟨List.mem_range.2 e3, e4⟩
  rw [oneRow] at hm
  obtain rfl := List.mem_singleton.1 hm
  have hh : typeHandle Tryd.prog 29 = .pointer (some ⟨1, 29, none⟩) := by kernel_rfl
  rw [hh] at e5
  have e6 := World.var?_cell et e5 0
  unfold Handle
  simpa using e6

noncomputable def laidWorld (os : Os) : World :=
  { World.holding Tryd.prog os ⟨#[], #[], []⟩ with heap := (World.holding Tryd.prog os ⟨#[], #[], []⟩).heap.modify 0 fun
      | .cells _ t frozen => .cells #[.iface 74 (.agg #[.pointer (some ⟨1, 29, none⟩)])] t frozen
      | o => o }
theorem laid_met (os : Os) : laidMetH Tryd.prog Rows.spfSaysRow.laid ((laidWorld os).forCall (fun _ _ => 0) ⟨#[], #[.int .i64 0, .slice none 0 0, .int .i64 0, .int .i64 0], []⟩).memory :=
  laidMetH_of_parts (laidMet_nil _ _) (by kernel_rfl)
theorem reads_wit (os : Os) {H : Type} (enc : TypeId × Value → H) : ∃ places, DataW.whole enc Tryd.prog ((laidWorld os).forCall (fun _ _ => 0) ⟨#[], #[.int .i64 0, .slice none 0 0, .int .i64 0, .int .i64 0], []⟩).memory Tryd.f3.params.toList Rows.spfSaysSpec.vars false (#[.int .i64 0, .slice none 0 0, .int .i64 0, .int .i64 0] : Array Value).toList 8 = some ([.lit (.int .i64 0), .nil, .lit (.int .i64 0), .lit (.int .i64 0)], [], places) :=
  ⟨[], by kernel_rfl⟩

theorem contract (H : Type) (enc : TypeId × Value → H) (W : World) (base : Nat) (args : Array Value) (ds gs : List (DataW H)) (before : List MemPlace)
    (hval : ∀ (j : Nat) t v, Tryd.f3.params[j]? = some t → args[j]? = some v → Value.okWide Tryd.prog W .any base t v)
    (hW : DataW.Whole enc Tryd.prog Tryd.f3.params.toList Rows.spfSaysSpec.vars false W args.toList ds gs before) (hL : laidMetH Tryd.prog Rows.spfSaysRow.laid W) :
    Calls Tryd.prog 3 args W fun e W' => ∃ v, e = .returned v ∧ Rows.spfSaysSpec.post enc Tryd.prog Tryd.f3 false true false false W args v W' := by
  have hW' := hW
  have hg := handle_of_laid hL
  obtain ⟨p, q, hA0, hV, rfl, hfz, hnd⟩ := hW
  have hA : DataW.TrodAll enc Tryd.prog W 0 (fun _ => true) true Tryd.f3.params.toList args.toList ds p := hA0
  have hlt := hA.lt
  rw [Tryd.params3] at hA hval
  obtain ⟨v0, vs0, d0, ds0, p0, q0, hargs, rfl, rfl, h0, r0⟩ := trodAll_cons hA
  obtain ⟨v1, vs1, d1, ds1, p1, q1, hvs1, rfl, rfl, h1, r1⟩ := trodAll_cons r0
  obtain ⟨v2, vs2, d2, ds2, p2, q2, hvs2, rfl, rfl, h2, r2⟩ := trodAll_cons r1
  obtain ⟨v3, vs3, d3, ds3, p3, q3, hvs3, rfl, rfl, h3, r3⟩ := trodAll_cons r2
  obtain ⟨hvsn, rfl, rfl⟩ := trodAll_nil r3
  simp only [hvsn, hvs3, hvs2, hvs1] at hargs
  obtain rfl : args = #[v0, v1, v2, v3] := by cases args; simp_all
  obtain ⟨a0, rfl, rfl, rfl, w0⟩ := open_int Tryd.underlying3 (hval 0 3 v0 rfl rfl) h0
  have b0 := bounds_int w0
  obtain ⟨p1a, cap1, l1, rfl, i1, e1⟩ := Go.Proofs.YthicejpgfmhimaaDoor.Vector.open_links (hval 1 22 v1 rfl rfl) h1 (fun x hx => hlt x (by simp [hx]))
  obtain ⟨a2, rfl, rfl, rfl, w2⟩ := open_int Tryd.underlying3 (hval 2 3 v2 rfl rfl) h2
  have b2 := bounds_int w2
  obtain ⟨a3, rfl, rfl, rfl, w3⟩ := open_int Tryd.underlying3 (hval 3 3 v3 rfl rfl) h3
  have b3 := bounds_int w3
  obtain ⟨rfl, rfl⟩ := trodVars_none hV
  clear hA0
  exact law_post 4 laid reads rfl Tryd.underlying4 rfl hW' ⟨rfl, rfl, rfl⟩ (law_any a0 a2 a3 _ _ _ l1 W hg rfl i1 w2 w3)

set_option maxRecDepth 100000 in
theorem lifted (os : Os) (started : os.Started) (H : Type) (enc : TypeId × Value → H) (F : Stop.Interp) :
    ReturnsInHanded {} Tryd.checked os 3 .any ((OpenSpec.ofChange Rows.spfSaysSpec).preRow enc Tryd.prog Tryd.f3 Rows.spfSaysRow.domain false Rows.spfSaysRow.laid) (((OpenSpec.ofChange Rows.spfSaysSpec).at F).post enc Tryd.prog Tryd.f3 false true false false) := by
  obtain ⟨places, hx⟩ := reads_wit os enc
  refine returnsInHanded_of_row (C := Tryd.checked) (s := (OpenSpec.ofChange Rows.spfSaysSpec)) own started (by kernel_rfl) Tryd.func3
    (witness_row_at (enc := enc) (C := Tryd.checked) false (laidWorld os) #[.int .i64 0, .slice none 0 0, .int .i64 0, .int .i64 0] rfl (by kernel_rfl) (by kernel_rfl) (by kernel_rfl)
      (OpenSpec.preRow_of_cond 8 hx (by kernel_rfl) (fun k hk => by cases hk) (by kernel_rfl) (laid_met os))) ?_
  intro W base args ds gs before hval hW _ hcond _ hL _ _
  exact contract H enc W base args ds gs before hval hW hL

theorem said : Rows.SpfSaysSaid :=
  OpenClaim.holds_of_cond 3 Tryd.f3 rfl rfl rfl rfl rfl rfl rfl ⟨rfl, rfl, rfl, rfl, rfl⟩ rfl rfl rfl rfl rfl (by kernel_rfl) Tryd.func3 (by kernel_rfl)
    (of_decide_eq_true (by kernel_rfl)) (by unfold Func.isWrapper; first | (rw [if_pos (by decide +kernel)]; kernel_rfl) | (rw [if_neg (by decide +kernel)]; exact ⟨rfl, rfl⟩))
    (fun os started H enc _ F => by rw [OpenClaim.pre_eq_preRow]; exact lifted os started H enc F)

theorem plain (f : FuncId) (fn : Func) (hf : Tryd.pinned.checked.prog.funcNamed Rows.spfSaysRow.func = some f) (hfn : Tryd.pinned.checked.prog.funcs[f]? = some fn) :
    true = Tryd.pinned.checked.prog.looks [] ∧ ∀ (j : Nat) t, fn.params[j]? = some t → Tryd.pinned.checked.prog.wantsStandIn t = false := by
  obtain rfl : f = 3 := Option.some.inj ((show Tryd.prog.funcNamed Rows.spfSaysRow.func = some 3 by kernel_rfl).symm.trans hf) |>.symm
  obtain rfl : fn = Tryd.f3 := (Option.some.inj (Tryd.func3.symm.trans hfn)).symm
  refine ⟨by kernel_rfl, fun j t ht => ?_⟩
  have hall : Tryd.f3.params.toList.all (fun t => !Tryd.prog.wantsStandIn t) = true := by kernel_rfl
  have hm : t ∈ Tryd.f3.params.toList := by simpa using Array.mem_of_getElem? ht
  have := List.all_eq_true.1 hall t hm
  show Tryd.prog.wantsStandIn t = false
  simpa using this

theorem proved : Rows.SpfSaysCardSaid :=
  Claim7.holds_tied_plain_at .later [] _ _ _ _ said (fun _ h => by cases h) (by kernel_rfl) (fun _ h => by cases h) spfSays_row_tie rfl ⟨rfl, rfl⟩ (by kernel_rfl) rfl plain (by kernel_rfl)
end Go.Proofs.YthicejpgfmhimaaDoor.SpfSaysL
