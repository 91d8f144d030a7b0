/- StpSays: for all arguments, the functions of package stp return what the document specifies: for every input, the row's handle laid as the card says. -/
import Derived.Test.YthjhlemdmahlnaaDoorCards
import Derived.Test.YthjhlemdmahlnaaDoorTie
import Derived.Deep.DeepHandedRow
import Derived.Lib.LaidTab
import Derived.LaidHandle
import Derived.SevenTiedAt
import Derived.Test.YthjhlemdmahlnaaDoorStpQuad
import Derived.Test.YthjhlemdmahlnaaDoorSpfRef
import Derived.Test.YthjhlemdmahlnaaDoorVecRef
import Derived.Test.YthjhlemdmahlnaaDoorSame
import Derived.Test.YthjhlemdmahlnaaDoorTruth
import Derived.Test.YthjhlemdmahlnaaDoorErrSame
import Derived.Deep.Cut
namespace Go.Proofs.YthjhlemdmahlnaaDoor.StpSaysL
open Go.ChangeShapes Go.WideShapes Go.ChangeAt Go.RowKit Go.Proofs.YthjhlemdmahlnaaDoor.Kit Go.Proofs.YthjhlemdmahlnaaDoor.App Go.Proofs.YthjhlemdmahlnaaDoor.Cells Go.Proofs.YthjhlemdmahlnaaDoor.Err Go.Proofs.YthjhlemdmahlnaaDoor.Vector Go.Proofs.YthjhlemdmahlnaaDoor.Spf Go.Proofs.YthjhlemdmahlnaaDoor.Stp Go.Proofs.YthjhlemdmahlnaaDoor.Truth Go.Proofs.YthjhlemdmahlnaaDoor.As
set_option linter.unusedVariables false
set_option maxRecDepth 20000
set_option maxHeartbeats 4000000

abbrev Law (n : Int) (p : Option Addr) (m cap : Nat) (w : World) : Prop := Calls Tryd.prog 3 #[.int .i64 n, .slice p m cap] w fun e w' => e = .returned (.bool true) ∧ Below w.heap.size w w'
theorem ints_nil (W : World) : Ints W none 0 [] := ints_none W _ _ _ (by unfold maxLen; omega) rfl
theorem none_same (W : World) : Calls Tryd.prog 10 #[.slice none 0 0, .slice none 0 0] W fun e w' => e = .returned (.bool true) ∧ Below W.heap.size W w' := ints_any none none 0 0 0 0 [] [] W rfl rfl (ints_nil W) (ints_nil W) true (by decide)
theorem bools_same (p q : Option Addr) (cap cap2 n : Nat) (a : List Bool) (W : World) (hn : n = a.length) (ha : Tru W p cap a) (hb : Tru W q cap2 a) : Calls Tryd.prog 12 #[.slice p n cap, .slice q n cap2] W fun e w' => e = .returned (.bool true) ∧ Below W.heap.size W w' :=
  (bools_any p q cap cap2 n n a a W hn hn ha hb true (by simp)).mono fun e w' ⟨h1, k, h2⟩ => ⟨h1, by rw [h2]; exact bdrewN (brefl W) k⟩
theorem law_bad (n : Int) (p : Option Addr) (m cap : Nat) (ls : List Lk) (w : World) (hH : Handle w) (hm : m = ls.length) (hi : CI layL w p cap ls) (c : Int) (hc : code n ls = c) (h0 : c ≠ 0) : Law n p m cap w := by
  have D1 := Lib.hid (rlinks_any n p cap m ls w hm hi c hc)
  have TB := Lib.hid (fun W (hW : Below w.heap.size w W) => tree_bad n p cap m ls W hm (hi.below hW) c hc h0)
  have UB := Lib.hid (fun W (hW : Below w.heap.size w W) => used_bad n p cap m ls W hm (hi.below hW) c hc h0)
  have E1 := Lib.hid (fun W (hb : Below w.heap.size w W) => err_same c W (hH.below hb))
  have t0 : (c == 0) = false := by rw [beq_eq_false_iff_ne]; exact h0
  clear hm hi hc h0 hH
  generalize er c = V at E1 TB UB
  unfold Law
  go_enter Tryd.func3, Tryd.ntmps3
  go_wp2_with fail
  refine D1.out.mono ?_; rintro e w1 ⟨rfl, hb⟩
  obtain ⟨w2, hmk, ho, hg⟩ := made_truth w1 0 (by omega)
  have hmk0 : (Instr.makeSlice 25 (.int .i64 0) (.int .i64 0)).run Tryd.prog w1 = .ok (.slice (some ⟨w1.heap.size, 0, none⟩) 0 0) w2 := hmk
  have HB12 := Lib.hid (show Below w1.heap.size w1 w2 from (brefl w1).grown hg (Nat.le_refl _) (fun k hk => by cases hk))
  have HB2 := Lib.hid (bcall hb HB12.out)
  have HO := Lib.hid ho.tru.2
  obtain ⟨G, hG⟩ : ∃ G, w1.heap.size = G := ⟨_, rfl⟩
  rw [hG] at hmk0 HO
  clear hb D1 hmk ho hg HB12 hG
  go_wp2_with fail
  clear hmk0
  refine (TB.out w2 HB2.out).mono ?_; rintro e w3 ⟨rfl, hb⟩
  have HB3 := Lib.hid (bcall HB2.out hb)
  have HO3 := Lib.hid (HO.out.below hb)
  clear TB HB2 hb HO
  go_wp2_with fail
  refine (E1.out w3 HB3.out).mono ?_; rintro e w4 ⟨rfl, hb⟩
  have HB4 := Lib.hid (bcall HB3.out hb)
  have HO4 := Lib.hid (HO3.out.below hb)
  clear HB3 hb HO3
  go_wp2_with fail
  refine (none_same w4).mono ?_; rintro e w5 ⟨rfl, hb⟩
  have HB5 := Lib.hid (bcall HB4.out hb)
  have HO5 := Lib.hid (HO4.out.below hb)
  clear HB4 hb HO4
  go_wp2_with fail
  refine (none_same w5).mono ?_; rintro e w6 ⟨rfl, hb⟩
  have HB6 := Lib.hid (bcall HB5.out hb)
  have HO6 := Lib.hid (HO5.out.below hb)
  clear HB5 hb HO5
  go_wp2_with fail
  refine (none_same w6).mono ?_; rintro e w7 ⟨rfl, hb⟩
  have HB7 := Lib.hid (bcall HB6.out hb)
  have HO7 := Lib.hid (HO6.out.below hb)
  clear HB6 hb HO6
  go_wp2_with fail
  refine (UB.out w7 HB7.out).mono ?_; rintro e w8 ⟨rfl, hb⟩
  have HB8 := Lib.hid (bcall HB7.out hb)
  have HO8 := Lib.hid (HO7.out.below hb)
  clear UB HB7 hb HO7
  go_wp2_with fail
  refine (E1.out w8 HB8.out).mono ?_; rintro e w9 ⟨rfl, hb⟩
  have HB9 := Lib.hid (bcall HB8.out hb)
  have BS := Lib.hid (bools_same none _ 0 0 0 [] w9 rfl (Tru.nil _) (HO8.out.below hb))
  clear HB8 hb HO8
  go_wp2_with fail
  refine BS.out.mono ?_; rintro e w10 ⟨rfl, hb⟩
  have HB10 := Lib.hid (bcall HB9.out hb)
  clear HB9 hb
  go_wp2_with fail
  go_ret
  exact ⟨by first | rfl | simp, HB10.out⟩
theorem law_good (n : Nat) (p : Option Addr) (m cap : Nat) (ls : List Lk) (w : World) (hH : Handle w) (hm : m = ls.length) (hi : CI layL w p cap ls) (g : Vector.Good n ls) : Law n p m cap w := by
  have hn8 := g.up
  have hn1 := g.lo
  have hm32 : m ≤ 32 := by rw [hm]; exact g.len
  have D1 := Lib.hid (rlinks_any (n : Int) p cap m ls w hm hi 0 (code_good g))
  have FF := Lib.hid (fun W (hW : Below w.heap.size w W) i (hin : i < n) => rfar_own n i p cap m ls W g hm (hi.below hW) hin)
  have HOP := Lib.hid (fun W (hW : Below w.heap.size w W) i j (hin : i < n) (hjn : j < n) => rhop_any n i j p cap m ls W g hm (hi.below hW) hin hjn)
  have RC := Lib.hid (fun W (hW : Below w.heap.size w W) a b => rcost_any p cap m ls a b W hm (hi.below hW))
  have TR := Lib.hid (fun W (hW : Below w.heap.size w W) => tree_good n p cap m ls W hm (hi.below hW) g)
  have UR := Lib.hid (fun W (hW : Below w.heap.size w W) => used_good n p cap m ls W hm (hi.below hW) g)
  have E0 := Lib.hid (fun W (hb : Below w.heap.size w W) => err_same 0 W (hH.below hb))
  rw [er_0] at E0
  have HG := Lib.hid g
  have HM := Lib.hid hm
  have HI := Lib.hid hi
  clear hm hi g hH
  unfold Law
  go_enter Tryd.func3, Tryd.ntmps3
  go_wp2_with fail
  refine D1.out.mono ?_; rintro e w1 ⟨rfl, hb⟩
  obtain ⟨w2, hmk, _, hg⟩ := made_truth w1 0 (by omega)
  have hmk0 : (Instr.makeSlice 25 (.int .i64 0) (.int .i64 0)).run Tryd.prog w1 = .ok (.slice (some ⟨w1.heap.size, 0, none⟩) 0 0) w2 := hmk
  have HB12 := Lib.hid (show Below w1.heap.size w1 w2 from (brefl w1).grown hg (Nat.le_refl _) (fun k hk => by cases hk))
  have HB2 := Lib.hid (bcall hb HB12.out)
  obtain ⟨w3, hmk3, ho3, hg3⟩ := made_truth w2 m (by omega)
  have HB3 := Lib.hid (show Below w2.heap.size w2 w3 from (brefl w2).grown hg3 (Nat.le_refl _) (fun k hk => by cases hk))
  obtain ⟨G, hG⟩ : ∃ G, w2.heap.size = G := ⟨_, rfl⟩
  have HQ0 : Hid (Quad w2 w3 G m (.slice none 0 0) (.slice none 0 0) (.slice none 0 0) ((rw1 n (rtI ls)).take 0) ((rw1 n (fr ls)).take 0) ((rw1 n (ov ls)).take 0) (bl m (us ls 0))) := Lib.hid ⟨Trio.nil HB3.out, by rw [← bl_no, hG]; rw [hG] at ho3; exact ho3, by simp [Value.ownBlock], by simp [Value.ownBlock], by simp [Value.ownBlock]⟩
  rw [hG] at hmk3
  clear hb D1 hmk hg HB12 hg3 ho3 hG
  go_wp2_with fail
  clear hmk0 hmk3
  go_loopw [6, 7, 8, 10] (fun u1 v1 x1 iv wr => ∃ (i : Nat) (uv vv xv : Value), i ≤ n ∧ iv = .int .i64 i ∧ uv = u1 ∧ vv = v1 ∧ xv = x1 ∧ Hid (Quad w2 wr G m uv vv xv ((rw1 n (rtI ls)).take i) ((rw1 n (fr ls)).take i) ((rw1 n (ov ls)).take i) (bl m (us ls i)))) (fun _ _ _ i _ => n - (intOf i).toNat)
  case atStart => exact ⟨0, _, _, _, Nat.zero_le _, rfl, rfl, rfl, rfl, HQ0⟩
  case round =>
    obtain ⟨i, uv, vv, xv, hin, rfl, rfl, rfl, rfl, HQ⟩ := hrel
    clear HQ0
    by_cases hlt : i < n
    · have v0 : decide ((i : Int) < (n : Int)) = true := decide_eq_true (by omega)
      obtain ⟨w4, hw4⟩ : ∃ z, z = wr := ⟨wr, rfl⟩
      rw [← hw4] at HQ ⊢
      clear hw4 wr
      have hrt := rt_is HG.out i
      have hrn := rt_lt HG.out hlt
      have P0 := Lib.hid (FF.out w4 (bcall HB2.out HQ.out.t.bel) i hlt)
      go_wp2_with fail
      refine P0.out.mono ?_; rintro e w5 ⟨q5, c5, rfl, i5, ha5, hb5⟩
      have HQ5 := Lib.hid (HQ.out.below hb5)
      obtain ⟨bd, od, hq5, hlt5, hc5⟩ := i5.2.2.2 (by rw [rw1_len]; omega)
      subst hq5
      have CD := Lib.hid (fun W (hW : Below w5.heap.size w5 W) j (hj : j < n) => (show W.cell? ⟨bd, od + j, none⟩ = some (.int .i64 (ds ls i j)) from by
        rw [hW.cell (p := ⟨bd, od + j, none⟩) hlt5, hc5 j (by rw [rw1_len]; exact hj), rw1_get _ _ hj]))
      have HBD := Lib.hid (show w4.heap.size ≤ bd from ha5 _ rfl)
      have HND := Lib.hid (show uv.ownBlock ≠ some bd from fun e => by have := (HQ.out.t.o1.lt bd e).2; have := HBD.out; omega)
      have HRT := Lib.hid hrt
      clear P0 i5 ha5 hb5 hlt5 hc5 HQ hrt
      go_wp2_with fail
      -- the smallest that can be reached
      go_loopw [12] (fun rv wr => ∃ r : Nat, r ≤ rt ls i ∧ rv = .int .i64 r ∧ wr = w5) (fun r _ => n - (intOf r).toNat)
      case atStart => exact ⟨0, Nat.zero_le _, rfl, rfl⟩
      case round =>
        obtain ⟨r, hr, rfl, hww⟩ := hrel
        rw [hww]
        clear hww wr
        have hrn' : (r : Int) < (n : Int) := by omega
        have c0 := CD.out w5 (brefl _) r (by omega)
        by_cases hlt2 : r < rt ls i
        · rw [HRT.out.2 r hlt2] at c0
          go_wp2_with fail
          go_roundw
          case rel => exact ⟨r + 1, by omega, by first | rfl | go_num, by first | trivial | rfl⟩
          case measure => simp [intOf]; omega
        · have hre : r = rt ls i := by omega
          have hf : ds ls i r = fr ls i := by rw [hre]; rfl
          have hne : (fr ls i == 1000) = false := beq_eq_false_iff_ne.2 (by rw [← hf, hre]; exact HRT.out.1)
          have P1 := Lib.hid (fun W (hW : Below w5.heap.size w5 W) => HOP.out W (bcall HB2.out (bcall HQ5.out.t.bel hW)) i r hlt (by omega))
          rw [show hop ls i r = ov ls i by rw [hre]; rfl] at P1
          have hfb := fr_b HG.out i
          have hob := ov_b HG.out i
          have T1 := Lib.hid (rw1_take (f := rtI ls) hlt)
          have T2 := Lib.hid (rw1_take (f := fr ls) hlt)
          have T3 := Lib.hid (rw1_take (f := ov ls) hlt)
          rw [show rtI ls i = (r : Int) by rw [hre]; rfl] at T1
          have L1 := Lib.hid (rw1_tlen (f := rtI ls) hin)
          have L2 := Lib.hid (rw1_tlen (f := fr ls) hin)
          have L3 := Lib.hid (rw1_tlen (f := ov ls) hin)
          obtain ⟨A, hA⟩ : ∃ A, (rw1 n (rtI ls)).take i = A := ⟨_, rfl⟩
          obtain ⟨B, hB⟩ : ∃ B, (rw1 n (fr ls)).take i = B := ⟨_, rfl⟩
          obtain ⟨D, hD⟩ : ∃ D, (rw1 n (ov ls)).take i = D := ⟨_, rfl⟩
          rw [hA] at HQ5 T1 L1
          rw [hB] at HQ5 T2 L2
          rw [hD] at HQ5 T3 L3
          obtain ⟨A2, hA2⟩ : ∃ A2, (rw1 n (rtI ls)).take (i + 1) = A2 := ⟨_, rfl⟩
          obtain ⟨B2, hB2⟩ : ∃ B2, (rw1 n (fr ls)).take (i + 1) = B2 := ⟨_, rfl⟩
          obtain ⟨D2, hD2⟩ : ∃ D2, (rw1 n (ov ls)).take (i + 1) = D2 := ⟨_, rfl⟩
          rw [hA2] at T1
          rw [hB2] at T2
          rw [hD2] at T3
          have HA2 := Lib.hid hA2
          have HB2' := Lib.hid hB2
          have HD2 := Lib.hid hD2
          rw [hf] at c0
          have HOV := Lib.hid (show ov ls i = ov ls i from rfl)
          obtain ⟨f, hf2⟩ : ∃ f, fr ls i = f := ⟨_, rfl⟩
          rw [hf2] at c0 hne T2 hfb
          obtain ⟨o, ho⟩ : ∃ o, ov ls i = o := ⟨_, rfl⟩
          rw [ho] at P1 T3 hob
          have HOO := Lib.hid ho
          have CDR := Lib.hid (fun W (hW : Below w5.heap.size w5 W) => (show W.cell? ⟨bd, od + r, none⟩ = some (.int .i64 f) from by rw [CD.out W hW r (by omega), hf, hf2]))
          clear hA hB hD hA2 hB2 hD2 hf hf2 ho hlt2 hre HOV CD HRT
          go_wp2_with fail
          refine (P1.out w5 (brefl _)).mono ?_; rintro e w6 ⟨rfl, hb6⟩
          have HQ6 := Lib.hid (HQ5.out.below hb6)
          have c6 := CDR.out w6 hb6
          have HA1 := Lib.hid (HQ6.out.alloc (.cells #[.int .i64 (r : Int)] 3))
          have c6a := CDR.out (w6.alloc (.cells #[.int .i64 (r : Int)] 3)) (balloc hb6 _)
          have HC6 := Lib.hid c6a
          clear c0 hne P1 hb6 HQ5 CDR c6a
          go_wp2_with (first
            | (at_builtin
               refine wp_app rfl (.tmp 53) (.tmp 55) rfl w2.heap.size uv A (some ⟨w6.heap.size, 0, none⟩) 1 1 [(r : Int)] rfl HA1.out.t.o1 rfl rfl (Ints.one w6 (r : Int) (wf_in (by omega))) (by rw [L1.out, List.length_singleton]; omega) HA1.out.t.bel.size ?_
               intro u7 w7 ho7 hg7 hat7
               have HQ7 := Lib.hid (HA1.out.app1 ho7 hg7 hat7)
               have c7 := keep_cell HC6.out hg7 HND.out
               have HA2q := Lib.hid (HQ7.out.alloc (.cells #[.int .i64 f] 3))
               clear ho7 hg7 hat7)
            | (at_builtin
               refine wp_app rfl (.tmp 57) (.tmp 62) rfl w2.heap.size vv B (some ⟨w7.heap.size, 0, none⟩) 1 1 [f] rfl HA2q.out.t.o2 rfl rfl (Ints.one w7 f (wf_in (by omega))) (by rw [L2.out, List.length_singleton]; omega) HA2q.out.t.bel.size ?_
               intro v8 w8 ho8 hg8 hat8
               have HQ8 := Lib.hid (HA2q.out.app2 ho8 hg8 hat8)
               have HA3q := Lib.hid (HQ8.out.alloc (.cells #[.int .i64 o] 3))
               clear ho8 hg8 hat8)
            | (at_builtin
               refine wp_app rfl (.tmp 64) (.tmp 66) rfl w2.heap.size xv D (some ⟨w8.heap.size, 0, none⟩) 1 1 [o] rfl HA3q.out.t.o3 rfl rfl (Ints.one w8 o (wf_in (by omega))) (by rw [L3.out, List.length_singleton]; omega) HA3q.out.t.bel.size ?_
               intro x9 w9 ho9 hg9 hat9
               have HQ9 := Lib.hid (show Quad w2 w9 G m u7 v8 x9 A2 B2 D2 (bl m (us ls i)) by rw [T1.out, T2.out, T3.out]; exact HA3q.out.app3 ho9 hg9 hat9)
               clear ho9 hg9 hat9))
          clear c6 c7 HQ6 HQ7 HQ8 HA1 HA2q HA3q HC6 HND HBD T1 T2 T3 L1 L2 L3
          by_cases hneg : o < 0
          · have HE := Lib.hid (show bl m (us ls (i + 1)) = bl m (us ls i) from bl_congr fun j _ => us_skip HG.out (by rw [HOO.out]; exact hneg) j)
            have e0 : decide (o ≥ 0) = false := decide_eq_false (by omega)
            clear hneg
            go_loopw [15] (fun kv wr => kv = .int .i64 0 ∧ wr = w9) (fun _ _ => 0)
            case atStart => exact ⟨rfl, rfl⟩
            case round =>
              obtain ⟨rfl, hww⟩ := hrel
              rw [hww]
              clear hww wr
              by_cases hm0 : 0 < m
              · have e1 : decide ((0 : Int) < (m : Int)) = true := decide_eq_true (by omega)
                go_wp2_with fail
                go_roundw
                case rel => exact ⟨i + 1, u7, v8, x9, by omega, by first | rfl | go_num, rfl, rfl, rfl, Lib.hid (by rw [HE.out, HA2.out, HB2'.out, HD2.out]; exact HQ9.out)⟩
                case measure => simp [intOf]; omega
              · have e1 : decide ((0 : Int) < (m : Int)) = false := decide_eq_false (by omega)
                go_wp2_with fail
                go_roundw
                case rel => exact ⟨i + 1, u7, v8, x9, by omega, by first | rfl | go_num, rfl, rfl, rfl, Lib.hid (by rw [HE.out, HA2.out, HB2'.out, HD2.out]; exact HQ9.out)⟩
                case measure => simp [intOf]; omega
          · obtain ⟨v, hv⟩ : ∃ v : Nat, o = (v : Int) := ⟨o.toNat, by omega⟩
            subst hv
            have hu := up_ov HG.out HOO.out
            obtain ⟨j, hj, _⟩ := lnk_of HG.out (a := i) (b := v) (by have := hu.co; omega)
            have hjm : j < m := by rw [HM.out]; exact hj.lt
            have HE := Lib.hid (show bl m (us ls (i + 1)) = (bl m (us ls i)).set j true by rw [bl_set]; exact bl_congr fun k _ => us_take ⟨v, HOO.out, hj⟩ k)
            have e0 : decide ((v : Int) ≥ 0) = true := decide_eq_true (by omega)
            have HJ := Lib.hid hj
            obtain ⟨U0, hU0⟩ : ∃ U0, bl m (us ls i) = U0 := ⟨_, rfl⟩
            obtain ⟨U1, hU1⟩ : ∃ U1, bl m (us ls (i + 1)) = U1 := ⟨_, rfl⟩
            have HUL := Lib.hid (show ∀ k, k < m → ∃ b, U0[k]? = some b from fun k hk => ⟨us ls i k, by rw [← hU0, bl_get hk]⟩)
            rw [hU0] at HE HQ9
            rw [hU1] at HE
            have HU1 := Lib.hid hU1
            obtain ⟨d, hd⟩ : ∃ d, co ls i v = d := ⟨_, rfl⟩
            have HCO := Lib.hid hd
            have RCK := Lib.hid (fun W (hW : Below w2.heap.size w2 W) => RC.out W (bcall HB2.out hW) (i : Int) (v : Int))
            rw [show cst ls (i : Int) (v : Int) ls.length = d from hd] at RCK
            clear hneg hu hj hU0 hU1 hd hob
            go_loopw [14, 15] (fun fv kv wr => ∃ (k : Nat) (fb : Bool), k ≤ m ∧ kv = .int .i64 k ∧ fv = .bool fb ∧ (fb = false → k ≤ j) ∧ Hid (Quad w2 wr G m u7 v8 x9 A2 B2 D2 (if fb = true then U1 else U0))) (fun _ k _ => m - (intOf k).toNat)
            case atStart => exact ⟨0, false, Nat.zero_le _, rfl, rfl, fun _ => Nat.zero_le _, HQ9⟩
            case round =>
              obtain ⟨k, fb, hkm, rfl, rfl, hfk, HQL⟩ := hrel
              clear HQ9
              cases fb with
              | true =>
                have HQT := Lib.hid (show Quad w2 wr G m u7 v8 x9 A2 B2 D2 U1 by have := HQL.out; simpa using this)
                clear HQL hfk
                by_cases hm0 : k < m
                · have e1 : decide ((k : Int) < (m : Int)) = true := decide_eq_true (by omega)
                  go_wp2_with fail
                  go_roundw
                  case rel => exact ⟨i + 1, u7, v8, x9, by omega, by first | rfl | go_num, rfl, rfl, rfl, Lib.hid (by rw [HU1.out, HA2.out, HB2'.out, HD2.out]; exact HQT.out)⟩
                  case measure => simp [intOf]; omega
                · have e1 : decide ((k : Int) < (m : Int)) = false := decide_eq_false (by omega)
                  go_wp2_with fail
                  go_roundw
                  case rel => exact ⟨i + 1, u7, v8, x9, by omega, by first | rfl | go_num, rfl, rfl, rfl, Lib.hid (by rw [HU1.out, HA2.out, HB2'.out, HD2.out]; exact HQT.out)⟩
                  case measure => simp [intOf]; omega
              | false =>
                have HQT := Lib.hid (show Quad w2 wr G m u7 v8 x9 A2 B2 D2 U0 by have := HQL.out; simpa using this)
                have hkj := hfk rfl
                have hk1 : k < m := by omega
                have e1 : decide ((k : Int) < (m : Int)) = true := decide_eq_true (by omega)
                have e1' : (k : Int) < (m : Int) := by omega
                have hkl : k < ls.length := by rw [← HM.out]; exact hk1
                obtain ⟨bl0, off, rfl, hbl, hat⟩ := links_at HI.out (by omega)
                obtain ⟨x0, x1, x2⟩ := hat wr (bcall HB2.out HQT.out.t.bel) k hkl
                have HYES := Lib.hid (show fit (lk ls k) (i : Int) (v : Int) → (lk ls k).c = d → k = j from fun h1 h2 => by
                  rcases Nat.lt_or_ge k j with h | h
                  · exact absurd (by rw [h2, HCO.out]) (HJ.out.first k h h1)
                  · omega)
                have HNOT := Lib.hid (show ¬ (fit (lk ls k) (i : Int) (v : Int) ∧ (lk ls k).c = d) → k + 1 ≤ j from fun h => by
                  rcases Nat.lt_or_ge k j with h2 | h2
                  · exact h2
                  · exfalso
                    have : k = j := by omega
                    subst this
                    exact h ⟨HJ.out.fit, by rw [HJ.out.c, HCO.out]⟩)
                obtain ⟨x, hx⟩ : ∃ x, lk ls k = x := ⟨_, rfl⟩
                rw [hx] at x0 x1 x2 HYES HNOT
                have BX := Lib.hid (BoxL.new wr x 29)
                obtain ⟨xa, xb, xc⟩ := x
                unfold fit at HYES HNOT
                simp only at x0 x1 x2 HYES HNOT
                have HB1 := Lib.hid (balloc (brefl wr) (.cells #[.int .i64 xa, .int .i64 xb, .int .i64 xc] 29))
                have HCG := Lib.hid (HUL.out k hk1)
                clear hat hx hkl hbl HQL hfk
                go_upto_region 22 with (fail)
                obtain ⟨B0, hB0⟩ : ∃ B0, wr.heap.size = B0 := ⟨_, rfl⟩
                obtain ⟨W1, hW1⟩ : ∃ W, wr.alloc (.cells #[.int .i64 xa, .int .i64 xb, .int .i64 xc] 29) = W := ⟨_, rfl⟩
                have HQ1 := Lib.hid (HQT.out.below HB1.out)
                rw [hW1] at BX HB1 HQ1 ⊢
                rw [hB0] at BX ⊢
                clear HQT x0 x1 x2 hW1 HB1 hB0 wr
                obtain ⟨_, b0, b1, b2⟩ := BX.out
                simp only at b0 b1 b2
                have CC := Lib.hid (fun q => RCK.out (W1.drewN q) (bdrewN HQ1.out.t.bel q))
                by_cases hf : ((xa = (i : Int) ∧ xb = (v : Int)) ∨ (xa = (v : Int) ∧ xb = (i : Int)))
                · have hcases : ((xa == (i : Int)) = true ∧ (xb == (v : Int)) = true) ∨ (((xa == (i : Int)) = false ∨ ((xa == (i : Int)) = true ∧ (xb == (v : Int)) = false)) ∧ (xa == (v : Int)) = true ∧ (xb == (i : Int)) = true) := by
                    simp only [beq_iff_eq, beq_eq_false_iff_ne]
                    omega
                  by_cases hcd : xc = d
                  · have ecd : (xc == d) = true := by rw [hcd]; simp
                    have hkj2 : k = j := HYES.out hf hcd
                    obtain ⟨ob, hob2⟩ := HCG.out
                    have c9 := fun q => (HQ1.out.drewN q).o.cell k ob hob2
                    have f9 := fun q => (HQ1.out.drewN q).o.fz k
                    have HS := Lib.hid (fun q => (show Quad w2 ((W1.drewN q).setCell ⟨G, k, none⟩ (.bool true)) G m u7 v8 x9 A2 B2 D2 U1 by rw [HE.out, ← hkj2]; exact (HQ1.out.drewN q).set k true))
                    have HC9 := Lib.hid c9
                    have HF9 := Lib.hid f9
                    clear hf hcd HYES HNOT hob2 c9 f9 HCG hkj2 hkj BX
                    rcases hcases with ⟨u1, u2⟩ | ⟨u1 | ⟨u1, u2⟩, u3, u4⟩
                    all_goals
                      go_wp2_with fail
                      go_quiet ((go_at_call 7; refine Calls.quiet_of_same (CC.out _)))
                      have c9 := HC9.out nq
                      have f9 := HF9.out nq
                      go_wp2_with fail
                      go_roundw
                      case rel => exact ⟨k + 1, true, by omega, by first | rfl | go_num, rfl, fun h => (by cases h), Lib.hid (by simpa using HS.out nq)⟩
                      case measure => simp [intOf]; omega
                  · have ecd : (xc == d) = false := beq_eq_false_iff_ne.2 hcd
                    have hk2 : k + 1 ≤ j := HNOT.out fun h => hcd h.2
                    have HQD := Lib.hid (fun q => HQ1.out.drewN q)
                    clear hf hcd HYES HNOT HCG hkj BX
                    rcases hcases with ⟨u1, u2⟩ | ⟨u1 | ⟨u1, u2⟩, u3, u4⟩
                    all_goals
                      go_wp2_with fail
                      go_quiet ((go_at_call 7; refine Calls.quiet_of_same (CC.out _)))
                      go_wp2_with fail
                      go_roundw
                      case rel => exact ⟨k + 1, false, by omega, by first | rfl | go_num, rfl, fun _ => hk2, Lib.hid (by simpa using HQD.out nq)⟩
                      case measure => simp [intOf]; omega
                · have hcases : ((xa == (i : Int)) = false ∨ ((xa == (i : Int)) = true ∧ (xb == (v : Int)) = false)) ∧ ((xa == (v : Int)) = false ∨ ((xa == (v : Int)) = true ∧ (xb == (i : Int)) = false)) := by
                    simp only [beq_iff_eq, beq_eq_false_iff_ne]
                    omega
                  have hk2 : k + 1 ≤ j := HNOT.out fun h => hf h.1
                  have HQD := Lib.hid (fun q => HQ1.out.drewN q)
                  clear hf HYES HNOT HCG hkj BX
                  rcases hcases with ⟨u1 | ⟨u1, u2⟩, u3 | ⟨u3, u4⟩⟩
                  all_goals
                    go_wp2_with fail
                    go_quiet (fail)
                    go_wp2_with fail
                    go_roundw
                    case rel => exact ⟨k + 1, false, by omega, by first | rfl | go_num, rfl, fun _ => hk2, Lib.hid (by simpa using HQD.out nq)⟩
                    case measure => simp [intOf]; omega
    · obtain rfl : i = n := by omega
      have v0 : decide ((i : Int) < (i : Int)) = false := decide_eq_false (by omega)
      have hq := HQ.out
      rw [rw1_full, rw1_full, rw1_full] at hq
      obtain ⟨pr, cr, rfl, ir⟩ := hq.t.o1.form
      obtain ⟨pf, cf, rfl, if_⟩ := hq.t.o2.form
      obtain ⟨po, co_, rfl, io⟩ := hq.t.o3.form
      have IR := Lib.hid ir
      have IF := Lib.hid if_
      have IOV := Lib.hid io
      have IT := Lib.hid hq.o.tru.2
      have HB5 := Lib.hid (bcall HB2.out hq.t.bel)
      rw [rw1_len, rw1_len, rw1_len]
      clear hq ir if_ io HQ v0 hlt
      go_wp2_with fail
      refine (TR.out wr HB5.out).mono ?_; rintro e w6 ⟨u, v, x, rfl, ht⟩
      have HB56 := Lib.hid ht.bel
      have HB6 := Lib.hid (bcall HB5.out ht.bel)
      obtain ⟨pu, cu, rfl, iu⟩ := ht.o1.form
      obtain ⟨pv, cv, rfl, iv⟩ := ht.o2.form
      obtain ⟨px, cx, rfl, ix⟩ := ht.o3.form
      have IU := Lib.hid iu
      have IV := Lib.hid iv
      have IX := Lib.hid ix
      rw [rw1_len, rw1_len, rw1_len]
      clear TR ht iu iv ix
      go_wp2_with fail
      refine (E0.out w6 HB6.out).mono ?_; rintro e w7 ⟨rfl, hb⟩
      have HB7 := Lib.hid (bcall HB6.out hb)
      have HB57 := Lib.hid (bcall HB56.out hb)
      have SM1 := Lib.hid (ints_any pu pr cu cr i i (rw1 i (rtI ls)) (rw1 i (rtI ls)) w7 (rw1_len _ _).symm (rw1_len _ _).symm (IU.out.below hb) (IR.out.below HB57.out) true (by simp))
      have SM2 := Lib.hid (fun W (hW : Below w7.heap.size w7 W) => ints_any pv pf cv cf i i (rw1 i (fr ls)) (rw1 i (fr ls)) W (rw1_len _ _).symm (rw1_len _ _).symm ((IV.out.below hb).below hW) ((IF.out.below HB57.out).below hW) true (by simp))
      have SM3 := Lib.hid (fun W (hW : Below w7.heap.size w7 W) => ints_any px po cx co_ i i (rw1 i (ov ls)) (rw1 i (ov ls)) W (rw1_len _ _).symm (rw1_len _ _).symm ((IX.out.below hb).below hW) ((IOV.out.below HB57.out).below hW) true (by simp))
      have IT7 := Lib.hid (IT.out.below HB57.out)
      clear hb IU IV IX IR IF IOV IT HB6 HB56 HB57
      go_wp2_with fail
      refine SM1.out.mono ?_; rintro e w8 ⟨rfl, hb⟩
      have HB78 := Lib.hid hb
      have HB8 := Lib.hid (bcall HB7.out hb)
      clear hb SM1
      go_wp2_with fail
      refine (SM2.out w8 HB78.out).mono ?_; rintro e w9 ⟨rfl, hb⟩
      have HB79 := Lib.hid (bcall HB78.out hb)
      have HB9 := Lib.hid (bcall HB8.out hb)
      clear hb SM2
      go_wp2_with fail
      refine (SM3.out w9 HB79.out).mono ?_; rintro e w10 ⟨rfl, hb⟩
      have IT10 := Lib.hid (IT7.out.below (bcall HB79.out hb))
      have HB10 := Lib.hid (bcall HB9.out hb)
      clear hb SM3 HB7 HB8 HB9 HB78 HB79 IT7
      go_wp2_with fail
      refine (UR.out w10 HB10.out).mono ?_; rintro e w11 ⟨t, rfl, ht, hb⟩
      have HB11 := Lib.hid (bcall HB10.out hb)
      obtain ⟨pt, ct, rfl, it⟩ := ht.form
      have IT11 := Lib.hid it
      have JT11 := Lib.hid (IT10.out.below hb)
      rw [bl_len]
      clear UR hb ht it IT10
      go_wp2_with fail
      refine (E0.out w11 HB11.out).mono ?_; rintro e w12 ⟨rfl, hb⟩
      have HB12 := Lib.hid (bcall HB11.out hb)
      have BS := Lib.hid (bools_same pt _ ct m m (bl m (us ls i)) w12 (bl_len _ _).symm (IT11.out.below hb) (JT11.out.below hb))
      clear hb IT11 JT11
      go_wp2_with fail
      refine BS.out.mono ?_; rintro e w13 ⟨rfl, hb⟩
      have HB13 := Lib.hid (bcall HB12.out hb)
      clear hb
      go_wp2_with fail
      go_ret
      exact ⟨by first | rfl | simp, HB13.out⟩
theorem law_any (n : Int) (p : Option Addr) (m cap : Nat) (ls : List Lk) (w : World) (hH : Handle w) (hm : m = ls.length) (hi : CI layL w p cap ls) : Law n p m cap w := by
  by_cases hc : code n ls = 0
  · obtain ⟨N, rfl, g⟩ := good_of hc
    exact law_good N p m cap ls w hH hm hi g
  · exact law_bad n p m cap ls w hH hm hi _ rfl hc

theorem reads : Tryd.f3.params.toList.all (fun t => Tryd.prog.readableRec t && decide (t < Tryd.prog.types.size)) = true := by kernel_rfl
theorem et : Tryd.prog.globalNamed "errors.errorType" = some 0 := by kernel_rfl
theorem rt : (Tryd.prog.cutTypes.find? (·.1 == "internal/reflectlite.rtype")).map (·.2) = some 81 := by kernel_rfl
theorem oneRow : ((List.range Tryd.prog.types.size).filter fun t => Tryd.prog.rowNamed t [101, 114, 114, 111, 114]) = [32] := by kernel_rfl

theorem handle_of_laid {W : World} (h : laidMetH Tryd.prog Rows.stpSaysRow.laid W) : Handle W := by
  have h' : laidMet Tryd.prog [] W ∧ handlesMet Tryd.prog Rows.stpSaysRow.laid W := h
  obtain ⟨name, u, ty, e1, e2, e3, e4, e5⟩ := h'.2 _ (List.mem_singleton.2 rfl)
  have en : name = [101, 114, 114, 111, 114] := (Option.some.inj e1).symm
  subst en
  obtain rfl := Option.some.inj (rt.symm.trans e2)
  have hm : ty ∈ (List.range Tryd.prog.types.size).filter fun t => Tryd.prog.rowNamed t [101, 114, 114, 111, 114] := List.mem_filter.2 ⟨List.mem_range.2 e3, e4⟩
  rw [oneRow] at hm
  obtain rfl := List.mem_singleton.1 hm
  have hh : typeHandle Tryd.prog 32 = .pointer (some ⟨1, 32, none⟩) := by kernel_rfl
  rw [hh] at e5
  have e6 := World.var?_cell et e5 0
  unfold Handle
  simpa using e6

noncomputable def laidWorld (os : Os) : World :=
  { World.holding Tryd.prog os ⟨#[], #[], []⟩ with heap := (World.holding Tryd.prog os ⟨#[], #[], []⟩).heap.modify 0 fun
      | .cells _ t frozen => .cells #[.iface 81 (.agg #[.pointer (some ⟨1, 32, none⟩)])] t frozen
      | o => o }
theorem laid_met (os : Os) : laidMetH Tryd.prog Rows.stpSaysRow.laid ((laidWorld os).forCall (fun _ _ => 0) ⟨#[], #[.int .i64 0, .slice none 0 0], []⟩).memory :=
  laidMetH_of_parts (laidMet_nil _ _) (by kernel_rfl)
theorem reads_wit (os : Os) {H : Type} (enc : TypeId × Value → H) : ∃ places, DataW.whole enc Tryd.prog ((laidWorld os).forCall (fun _ _ => 0) ⟨#[], #[.int .i64 0, .slice none 0 0], []⟩).memory Tryd.f3.params.toList Rows.stpSaysSpec.vars false (#[.int .i64 0, .slice none 0 0] : Array Value).toList 8 = some ([.lit (.int .i64 0), .nil], [], places) :=
  ⟨[], by kernel_rfl⟩

theorem contract (H : Type) (enc : TypeId × Value → H) (W : World) (base : Nat) (args : Array Value) (ds gs : List (DataW H)) (before : List MemPlace)
    (hval : ∀ (j : Nat) t v, Tryd.f3.params[j]? = some t → args[j]? = some v → Value.okWide Tryd.prog W .any base t v)
    (hW : DataW.Whole enc Tryd.prog Tryd.f3.params.toList Rows.stpSaysSpec.vars false W args.toList ds gs before) (hL : laidMetH Tryd.prog Rows.stpSaysRow.laid W) :
    Calls Tryd.prog 3 args W fun e W' => ∃ v, e = .returned v ∧ Rows.stpSaysSpec.post enc Tryd.prog Tryd.f3 false true false false W args v W' := by
  have hW' := hW
  have hg := handle_of_laid hL
  obtain ⟨p, q, hA0, hV, rfl, hfz, hnd⟩ := hW
  have hA : DataW.TrodAll enc Tryd.prog W 0 (fun _ => true) true Tryd.f3.params.toList args.toList ds p := hA0
  have hlt := hA.lt
  rw [Tryd.params3] at hA hval
  obtain ⟨v0, vs0, d0, ds0, p0, q0, hargs, rfl, rfl, h0, r0⟩ := trodAll_cons hA
  obtain ⟨v1, vs1, d1, ds1, p1, q1, hvs1, rfl, rfl, h1, r1⟩ := trodAll_cons r0
  obtain ⟨hvsn, rfl, rfl⟩ := trodAll_nil r1
  simp only [hvsn, hvs1] at hargs
  obtain rfl : args = #[v0, v1] := by cases args; simp_all
  obtain ⟨a0, rfl, rfl, rfl, w0⟩ := open_int Tryd.underlying3 (hval 0 3 v0 rfl rfl) h0
  have b0 := bounds_int w0
  obtain ⟨p1a, cap1, l1, rfl, i1, e1⟩ := Go.Proofs.YthjhlemdmahlnaaDoor.Vector.open_links (hval 1 22 v1 rfl rfl) h1 (fun x hx => hlt x (by simp [hx]))
  obtain ⟨rfl, rfl⟩ := trodVars_none hV
  clear hA0
  exact law_post 4 laid reads rfl Tryd.underlying4 rfl hW' ⟨rfl, rfl, rfl⟩ (law_any a0 _ _ _ l1 W hg rfl i1)

set_option maxRecDepth 100000 in
theorem lifted (os : Os) (started : os.Started) (H : Type) (enc : TypeId × Value → H) (F : Stop.Interp) :
    ReturnsInHanded {} Tryd.checked os 3 .any ((OpenSpec.ofChange Rows.stpSaysSpec).preRow enc Tryd.prog Tryd.f3 Rows.stpSaysRow.domain false Rows.stpSaysRow.laid) (((OpenSpec.ofChange Rows.stpSaysSpec).at F).post enc Tryd.prog Tryd.f3 false true false false) := by
  obtain ⟨places, hx⟩ := reads_wit os enc
  refine returnsInHanded_of_row (C := Tryd.checked) (s := (OpenSpec.ofChange Rows.stpSaysSpec)) own started (by kernel_rfl) Tryd.func3
    (witness_row_at (enc := enc) (C := Tryd.checked) false (laidWorld os) #[.int .i64 0, .slice none 0 0] rfl (by kernel_rfl) (by kernel_rfl) (by kernel_rfl)
      (OpenSpec.preRow_of_cond 8 hx (by kernel_rfl) (fun k hk => by cases hk) (by kernel_rfl) (laid_met os))) ?_
  intro W base args ds gs before hval hW _ hcond _ hL _ _
  exact contract H enc W base args ds gs before hval hW hL

theorem said : Rows.StpSaysSaid :=
  OpenClaim.holds_of_cond 3 Tryd.f3 rfl rfl rfl rfl rfl rfl rfl ⟨rfl, rfl, rfl, rfl, rfl⟩ rfl rfl rfl rfl rfl (by kernel_rfl) Tryd.func3 (by kernel_rfl)
    (of_decide_eq_true (by kernel_rfl)) (by unfold Func.isWrapper; first | (rw [if_pos (by decide +kernel)]; kernel_rfl) | (rw [if_neg (by decide +kernel)]; exact ⟨rfl, rfl⟩))
    (fun os started H enc _ F => by rw [OpenClaim.pre_eq_preRow]; exact lifted os started H enc F)

theorem plain (f : FuncId) (fn : Func) (hf : Tryd.pinned.checked.prog.funcNamed Rows.stpSaysRow.func = some f) (hfn : Tryd.pinned.checked.prog.funcs[f]? = some fn) :
    true = Tryd.pinned.checked.prog.looks [] ∧ ∀ (j : Nat) t, fn.params[j]? = some t → Tryd.pinned.checked.prog.wantsStandIn t = false := by
  obtain rfl : f = 3 := Option.some.inj ((show Tryd.prog.funcNamed Rows.stpSaysRow.func = some 3 by kernel_rfl).symm.trans hf) |>.symm
  obtain rfl : fn = Tryd.f3 := (Option.some.inj (Tryd.func3.symm.trans hfn)).symm
  refine ⟨by kernel_rfl, fun j t ht => ?_⟩
  have hall : Tryd.f3.params.toList.all (fun t => !Tryd.prog.wantsStandIn t) = true := by kernel_rfl
  have hm : t ∈ Tryd.f3.params.toList := by simpa using Array.mem_of_getElem? ht
  have := List.all_eq_true.1 hall t hm
  show Tryd.prog.wantsStandIn t = false
  simpa using this

theorem proved : Rows.StpSaysCardSaid :=
  Claim7.holds_tied_plain_at .later [] _ _ _ _ said (fun _ h => by cases h) (by kernel_rfl) (fun _ h => by cases h) stpSays_row_tie rfl ⟨rfl, rfl⟩ (by kernel_rfl) rfl plain (by kernel_rfl)
end Go.Proofs.YthjhlemdmahlnaaDoor.StpSaysL
