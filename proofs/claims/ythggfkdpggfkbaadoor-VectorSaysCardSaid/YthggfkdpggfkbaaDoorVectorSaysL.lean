/- VectorSays: for all arguments, the functions of package vector return what the document specifies: for every input, the row's handle laid as the card says. -/
import Derived.Test.YthggfkdpggfkbaaDoorCards
import Derived.Test.YthggfkdpggfkbaaDoorTie
import Derived.Deep.DeepHandedRow
import Derived.Lib.LaidTab
import Derived.LaidHandle
import Derived.SevenTiedAt
import Derived.Test.YthggfkdpggfkbaaDoorVecWalks
import Derived.Test.YthggfkdpggfkbaaDoorOwnR
import Derived.Test.YthggfkdpggfkbaaDoorRowsSame
import Derived.Test.YthggfkdpggfkbaaDoorErrSame
import Derived.Test.YthggfkdpggfkbaaDoorIn3
namespace Go.Proofs.YthggfkdpggfkbaaDoor.VectorSaysL
open Go.ChangeShapes Go.WideShapes Go.ChangeAt Go.RowKit Go.Proofs.YthggfkdpggfkbaaDoor.Kit Go.Proofs.YthggfkdpggfkbaaDoor.App Go.Proofs.YthggfkdpggfkbaaDoor.Cells Go.Proofs.YthggfkdpggfkbaaDoor.Err Go.Proofs.YthggfkdpggfkbaaDoor.OwnR Go.Proofs.YthggfkdpggfkbaaDoor.Vector Go.Proofs.YthggfkdpggfkbaaDoor.As
set_option linter.unusedVariables false
set_option maxRecDepth 20000
set_option maxHeartbeats 4000000

abbrev Law (n : Int) (p : Option Addr) (m cap : Nat) (r : Int) (w : World) : Prop := Calls Tryd.prog 3 #[.int .i64 n, .slice p m cap, .int .i64 r] w fun e w' => e = .returned (.bool true) ∧ Below w.heap.size w w'
theorem row_new (w : World) (q : Option Addr) (n c : Nat) : (w.alloc (.cells #[.slice q n c] 29)).cell? ⟨w.heap.size, 0, none⟩ = some (.slice q n c) := by
  have h := alloc_new w (.cells #[.slice q n c] 29)
  unfold World.cell?; rw [h]; rfl
theorem law_bad (n : Int) (p : Option Addr) (m cap : Nat) (ls : List Lk) (r : Int) (w : World) (hH : Handle w) (hm : m = ls.length) (hi : CI layL w p cap ls) (c : Int) (hc : code n ls = c) (h0 : c ≠ 0) : Law n p m cap r w := by
  have D1 := Lib.hid (rlinks_any n p cap m ls w hm hi c hc)
  have P1 := Lib.hid (fun W (hW : Below w.heap.size w W) => check_any n p cap m ls W hm (hi.below hW) c hc)
  have E1 := Lib.hid (fun W (hb : Below w.heap.size w W) => err_same c W (hH.below hb))
  have SE := Lib.hid (fun W (hW : Below w.heap.size w W) => settle_any n p cap m ls W hm (hi.below hW) c hc 0 (fun h => absurd h h0) (fun _ => rfl))
  have RU := Lib.hid (fun W (hW : Below w.heap.size w W) => rounds_bad n r p cap m ls W hm (hi.below hW) c (show code2 n ls r = c by unfold code2; rw [hc, if_neg h0]) h0)
  have t0 : (c == 0) = false := by rw [beq_eq_false_iff_ne]; exact h0
  have hlm := hi.len_le
  rw [← hm] at hlm
  clear hm hi hc h0 hH
  generalize er c = V at P1 E1 RU SE
  have tn : decide (0 < n) = true ∨ decide (0 < n) = false := by cases decide (0 < n) <;> simp
  unfold Law
  go_enter Tryd.func3, Tryd.ntmps3
  go_wp2_with fail
  refine D1.out.mono ?_; rintro e w1 ⟨rfl, hw1⟩
  have HB1 := Lib.hid hw1
  clear hw1 D1
  go_wp2_with fail
  refine (P1.out w1 HB1.out).mono ?_; rintro e w2 ⟨rfl, hb2⟩
  have HB2 := Lib.hid (bcall HB1.out hb2)
  clear hb2 P1
  go_wp2_with fail
  refine (E1.out w2 HB2.out).mono ?_; rintro e w3 ⟨rfl, hb3⟩
  have HB3 := Lib.hid (bcall HB2.out hb3)
  clear hb3
  go_wp2_with fail
  refine (SE.out w3 HB3.out).mono ?_; rintro e w4 ⟨rfl, hb4⟩
  have HB4 := Lib.hid (bcall HB3.out hb4)
  clear SE HB3 hb4
  go_wp2_with fail
  refine (E1.out w4 HB4.out).mono ?_; rintro e w5 ⟨rfl, hb5⟩
  have HB5 := Lib.hid (bcall HB4.out hb5)
  clear HB4 hb5
  rcases tn with tn | tn
  all_goals
    go_wp2_with fail
    go_loopw [14, 15] (fun ov iv wr => ov = .slice none 0 0 ∧ iv = .int .i64 0 ∧ wr = w5) (fun _ _ _ => 0)
    case atStart => exact ⟨rfl, rfl, rfl⟩
    case round =>
      obtain ⟨rfl, rfl, rfl⟩ := hrel
      go_wp2_with fail
      refine (RU.out wr HB5.out).mono ?_; rintro e w8 ⟨rfl, hb8⟩
      have HB8 := Lib.hid (bcall HB5.out hb8)
      clear RU HB5 hb8
      go_wp2_with fail
      refine (E1.out w8 HB8.out).mono ?_; rintro e w9 ⟨rfl, hb9⟩
      have HB9 := Lib.hid (bcall HB8.out hb9)
      have SM := Lib.hid (rows_any none none 0 0 0 0 [] [] w9 rfl rfl (RowsI.nil w9) (RowsI.nil w9) true (by decide))
      clear HB8 hb9
      go_wp2_with fail
      refine SM.out.mono ?_; rintro e w10 ⟨rfl, hb10⟩
      have HB10 := Lib.hid (bcall HB9.out hb10)
      go_wp2_with fail
      go_ret
      exact ⟨by first | rfl | simp, HB10.out⟩
theorem law_good (n : Nat) (p : Option Addr) (m cap : Nat) (ls : List Lk) (r : Int) (w : World) (hH : Handle w) (hm : m = ls.length) (hi : CI layL w p cap ls) (g : Vector.Good n ls) : Law n p m cap r w := by
  have hc : code (n : Int) ls = 0 := code_good g
  have D1 := Lib.hid (rlinks_any (n : Int) p cap m ls w hm hi 0 hc)
  have P1 := Lib.hid (fun W (hW : Below w.heap.size w W) => check_any (n : Int) p cap m ls W hm (hi.below hW) 0 hc)
  have E1 := Lib.hid (fun W (hb : Below w.heap.size w W) => err_same 0 W (hH.below hb))
  have E2 := Lib.hid (fun W (hb : Below w.heap.size w W) => err_same 1 W (hH.below hb))
  obtain ⟨s, hs⟩ := settled_is g
  have hsn := hs.lt g
  have hn8 := g.up
  have hn1 := g.lo
  have SE := Lib.hid (fun W (hW : Below w.heap.size w W) => settle_good n p cap m ls W g hm (hi.below hW) s hs)
  have WK := Lib.hid (fun W (hW : Below w.heap.size w W) (t k : Nat) (ht : t < n) (hk : k ≤ 100) => rwalks_any n t k p cap m ls W g hm (hi.below hW) ht hk)
  have FR := Lib.hid (fun W (hW : Below w.heap.size w W) (t : Nat) (ht : t < n) => rfar_any n t p cap m ls W g hm (hi.below hW) ht)
  have HST := Lib.hid hs
  have HG := Lib.hid g
  have HM := Lib.hid hm
  have HI := Lib.hid hi
  have hlm := hi.len_le
  rw [← hm] at hlm
  clear hm hi hc g hs hH
  rw [er_0] at P1 E1
  rw [er_1] at E2
  unfold Law
  go_enter Tryd.func3, Tryd.ntmps3
  go_wp2_with fail
  refine D1.out.mono ?_; rintro e w1 ⟨rfl, hw1⟩
  have HB1 := Lib.hid hw1
  clear hw1 D1
  go_wp2_with fail
  refine (P1.out w1 HB1.out).mono ?_; rintro e w2 ⟨rfl, hb2⟩
  have HB2 := Lib.hid (bcall HB1.out hb2)
  clear hb2 P1
  go_wp2_with fail
  refine (E1.out w2 HB2.out).mono ?_; rintro e w3 ⟨rfl, hb3⟩
  have HB3 := Lib.hid (bcall HB2.out hb3)
  clear hb3
  go_wp2_with fail
  go_loopw [9, 10] (fun tv iv wr => ∃ i t : Nat, i ≤ n ∧ t ≤ s ∧ iv = .int .i64 i ∧ tv = .int .i64 t ∧ Hid (∀ x, x < i → rw1 n (D ls t x) = rw1 n (D ls n x)) ∧ Hid (Below w.heap.size w wr)) (fun _ i _ => n - (intOf i).toNat)
  case atStart => exact ⟨0, 0, Nat.zero_le _, Nat.zero_le _, rfl, rfl, Lib.hid fun x hx => absurd hx (Nat.not_lt_zero _), HB3⟩
  case round =>
    obtain ⟨i, t, hin, hts, rfl, rfl, HCV, HB⟩ := hrel
    clear HB3
    by_cases hlt : i < n
    · have v0 : decide ((i : Int) < (n : Int)) = true := decide_eq_true (by omega)
      obtain ⟨w4, hw4⟩ : ∃ z, z = wr := ⟨wr, rfl⟩
      rw [← hw4] at HB ⊢
      clear hw4 wr
      go_wp2_with fail
      go_loopw [9] (fun tv wr => ∃ t : Nat, t ≤ s ∧ tv = .int .i64 t ∧ Hid (∀ x, x < i → rw1 n (D ls t x) = rw1 n (D ls n x)) ∧ Hid (Below w.heap.size w wr)) (fun t _ => s - (intOf t).toNat)
      case atStart => exact ⟨t, hts, rfl, HCV, HB⟩
      case round =>
        obtain ⟨t2, hts2, rfl, HCV2, HB5⟩ := hrel
        clear HCV HB
        have v1 : decide ((t2 : Int) < (n : Int)) = true := decide_eq_true (by omega)
        have W1 := Lib.hid (WK.out wr HB5.out i t2 hlt (by omega))
        go_wp2_with fail
        refine W1.out.mono ?_; rintro e w6 ⟨q6, c6, rfl, i6, _, hb6⟩
        have HB6 := Lib.hid (bcall HB5.out hb6)
        have HI6 := Lib.hid i6
        have F1 := Lib.hid (FR.out w6 HB6.out i hlt)
        clear W1 hb6 i6 HB5
        go_wp2_with fail
        refine F1.out.mono ?_; rintro e w7 ⟨q7, c7, rfl, i7, hb7⟩
        have HB7 := Lib.hid (bcall HB6.out hb7)
        by_cases heq : rw1 n (D ls t2 i) = rw1 n (D ls n i)
        · have SM := Lib.hid (ints_any q6 q7 c6 c7 n n _ _ w7 (rw1_len n _).symm (rw1_len n _).symm (HI6.out.below hb7) i7 true (by rw [heq]; simp))
          have HCV3 := Lib.hid (show ∀ x, x < i + 1 → rw1 n (D ls t2 x) = rw1 n (D ls n x) from fun x hx => by
            by_cases e : x = i
            · rw [e]; exact heq
            · exact HCV2.out x (by omega))
          clear F1 hb7 i7 HI6 HB6 heq HCV2
          go_wp2_with fail
          refine SM.out.mono ?_; rintro e w8 ⟨rfl, hb8⟩
          have HB8 := Lib.hid (bcall HB7.out hb8)
          clear SM hb8 HB7
          go_wp2_with fail
          go_roundw
          case rel => exact ⟨i + 1, t2, by omega, hts2, by first | rfl | go_num, rfl, HCV3, HB8⟩
          case measure => simp [intOf]; omega
        · have SM := Lib.hid (ints_any q6 q7 c6 c7 n n _ _ w7 (rw1_len n _).symm (rw1_len n _).symm (HI6.out.below hb7) i7 false (by symm; rw [beq_eq_false_iff_ne]; exact heq))
          have hlt2 : t2 < s := by
            rcases Nat.lt_or_ge t2 s with h | h
            · exact h
            · obtain rfl : t2 = s := by omega
              exact absurd (cover_settled HG.out HST.out i hlt) heq
          have HCV3 := Lib.hid (show ∀ x, x < i → rw1 n (D ls (t2 + 1) x) = rw1 n (D ls n x) from fun x hx => cover_on HG.out (Nat.le_add_right t2 1) (by omega) (HCV2.out x hx))
          clear F1 hb7 i7 HI6 HB6 heq HCV2
          go_wp2_with fail
          refine SM.out.mono ?_; rintro e w8 ⟨rfl, hb8⟩
          have HB8 := Lib.hid (bcall HB7.out hb8)
          clear SM hb8 HB7
          go_wp2_with fail
          go_roundw
          case rel => exact ⟨t2 + 1, by omega, by first | rfl | go_num, HCV3, HB8⟩
          case measure => simp [intOf]; omega
    · obtain rfl : i = n := by omega
      have v0 : decide ((i : Int) < (i : Int)) = false := decide_eq_false (by omega)
      obtain rfl : t = s := cover_all HG.out HST.out hts HCV.out
      clear HCV
      go_wp2_with fail
      refine (SE.out wr HB.out).mono ?_; rintro e w4 ⟨rfl, hb4⟩
      have HB4 := Lib.hid (bcall HB.out hb4)
      clear SE HB hb4 v0
      go_wp2_with fail
      refine (E1.out w4 HB4.out).mono ?_; rintro e w5 ⟨rfl, hb5⟩
      have HB5 := Lib.hid (bcall HB4.out hb5)
      clear HB4 hb5
      have v0 : decide (0 < (i : Int)) = true := decide_eq_true (by omega)
      by_cases hr : 0 ≤ r ∧ r ≤ 20
      · have IN := Lib.hid (fun W => Drr.in_any r 0 20 W true (in_true hr))
        obtain ⟨k, rfl⟩ : ∃ k : Nat, r = (k : Int) := ⟨r.toNat, by omega⟩
        have hk20 : k ≤ 20 := by omega
        have RU := Lib.hid (fun W (hW : Below w.heap.size w W) => rounds_good i k p cap m ls W HG.out HM.out (HI.out.below hW) hk20)
        clear hr v0
        go_wp2_with fail
        refine (IN.out w5).mono ?_; rintro e w6 ⟨rfl, rfl⟩
        have HO0 : Hid (OwnR w6 w6.heap.size (.slice none 0 0) ((rows i (D ls k)).take 0)) := Lib.hid (OwnR.nil _ _)
        go_wp2_with fail
        go_loopw [14, 15] (fun ov jv wr => ∃ j : Nat, j ≤ i ∧ jv = .int .i64 j ∧ Hid (OwnR wr w6.heap.size ov ((rows i (D ls k)).take j)) ∧ Hid (Below w6.heap.size w6 wr)) (fun _ j _ => i - (intOf j).toNat)
        case atStart => exact ⟨0, Nat.zero_le _, rfl, HO0, Lib.hid (brefl _)⟩
        case round =>
          obtain ⟨j, hji, rfl, HO, HQ⟩ := hrel
          clear HO0
          by_cases hjl : j < i
          · have v1 : decide ((j : Int) < (i : Int)) = true := decide_eq_true (by omega)
            have W1 := Lib.hid (WK.out wr (bcall HB5.out HQ.out) j k hjl (by omega))
            have HTK := Lib.hid (show (rows i (D ls k)).take (j + 1) = (rows i (D ls k)).take j ++ [rw1 i (D ls k j)] from by
              rw [List.take_add_one]
              unfold rows
              rw [List.getElem?_map, List.getElem?_range hjl]
              rfl)
            have HLN := Lib.hid (show ((rows i (D ls k)).take j).length = j from by rw [List.length_take, rows_len]; omega)
            obtain ⟨pe, ce, hev, _⟩ := HO.out.form
            rw [HLN.out] at hev
            subst hev
            go_wp2_with fail
            refine W1.out.mono ?_; rintro e w7 ⟨q7, c7, rfl, i7, ha7, hb7⟩
            have HQ7 := Lib.hid (bcall HQ.out hb7)
            have HO7 := Lib.hid (HO.out.below hb7)
            have HI7 := Lib.hid i7
            have HS7 := Lib.hid (show ∀ x, q7 = some x → (Value.slice pe j ce).ownBlock ≠ some x.block from fun x hx e => by
              have h1 := ha7 x hx
              have h2 := (HO.out.lt _ e).2
              omega)
            have hsz := HQ7.out.size
            clear W1 i7 ha7 hb7 HO HQ
            go_wp2_with (at_builtin
                         refine wp_appR rfl (.tmp 80) (.tmp 86) rfl w6.heap.size _ ((rows i (D ls k)).take j) ⟨w7.heap.size, 0, none⟩ q7 i c7 (rw1 i (D ls k j)) rfl (HO7.out.below (balloc (brefl _) _)) rfl (row_new w7 q7 i c7) (rw1_len _ _).symm (HI7.out.below (balloc (brefl _) _)) (by rw [rw1_len]; omega) HS7.out (by rw [HLN.out]; omega) (Nat.le_trans hsz (by simp)) ?_
                         intro v8 w8 hown8 hg8 hat8
                         have HO8 := Lib.hid (show OwnR w8 w6.heap.size v8 ((rows i (D ls k)).take (j + 1)) by rw [HTK.out]; exact hown8)
                         have HB8 := Lib.hid (show Below w6.heap.size w6 w8 from below_appR (HQ7.out.alloc hsz _) (HO7.out.below (balloc (brefl _) _)) hg8 (Nat.le_trans hsz (by simp)))
                         clear hown8 hg8 hat8)
            go_roundw
            case rel => exact ⟨j + 1, by omega, by first | rfl | go_num, HO8, HB8⟩
            case measure => simp [intOf]; omega
          · obtain rfl : j = i := by omega
            have v1 : decide ((j : Int) < (j : Int)) = false := decide_eq_false (by omega)
            have ho := HO.out
            rw [List.take_of_length_le (by rw [rows_len]; exact Nat.le_refl _)] at ho
            obtain ⟨pe, ce, rfl, hre⟩ := ho.form
            have HRE := Lib.hid hre
            have HB6 := Lib.hid (bcall HB5.out HQ.out)
            rw [rows_len]
            clear ho hre HO HQ
            go_wp2_with fail
            refine (RU.out wr HB6.out).mono ?_; rintro e w8 ⟨b8, rfl, hr8, hb8⟩
            have HB8 := Lib.hid (bcall HB6.out hb8)
            have HRE8 := Lib.hid (HRE.out.below hb8)
            have HRA8 := Lib.hid hr8
            clear RU HB6 hb8 hr8 HRE
            go_wp2_with fail
            refine (E1.out w8 HB8.out).mono ?_; rintro e w9 ⟨rfl, hb9⟩
            have HB9 := Lib.hid (bcall HB8.out hb9)
            have SM := Lib.hid (rows_any (some ⟨b8, 0, none⟩) pe j ce j j _ _ w9 (rows_len _ _).symm (rows_len _ _).symm (HRA8.out.below hb9) (HRE8.out.below hb9) true (by simp))
            clear HB8 hb9 HRA8 HRE8
            go_wp2_with fail
            refine SM.out.mono ?_; rintro e w10 ⟨rfl, hb10⟩
            have HB10 := Lib.hid (bcall HB9.out hb10)
            go_wp2_with fail
            go_ret
            exact ⟨by first | rfl | simp, HB10.out⟩
      · have IN := Lib.hid (fun W => Drr.in_any r 0 20 W false (in_false hr))
        have RU := Lib.hid (fun W (hW : Below w.heap.size w W) => rounds_bad (i : Int) r p cap m ls W HM.out (HI.out.below hW) 1 (show code2 (i : Int) ls r = 1 by unfold code2; rw [code_good HG.out, if_pos rfl, if_pos (by omega)]) (by decide))
        rw [er_1] at RU
        clear hr
        go_wp2_with fail
        refine (IN.out w5).mono ?_; rintro e w6 ⟨rfl, rfl⟩
        go_wp2_with fail
        go_loopw [14, 15] (fun ov iv wr => ov = .slice none 0 0 ∧ iv = .int .i64 0 ∧ wr = w6) (fun _ _ _ => 0)
        case atStart => exact ⟨rfl, rfl, rfl⟩
        case round =>
          obtain ⟨rfl, rfl, rfl⟩ := hrel
          go_wp2_with fail
          refine (RU.out wr HB5.out).mono ?_; rintro e w8 ⟨rfl, hb8⟩
          have HB8 := Lib.hid (bcall HB5.out hb8)
          clear RU HB5 hb8
          go_wp2_with fail
          refine (E2.out w8 HB8.out).mono ?_; rintro e w9 ⟨rfl, hb9⟩
          have HB9 := Lib.hid (bcall HB8.out hb9)
          have SM := Lib.hid (rows_any none none 0 0 0 0 [] [] w9 rfl rfl (RowsI.nil w9) (RowsI.nil w9) true (by decide))
          clear HB8 hb9
          go_wp2_with fail
          refine SM.out.mono ?_; rintro e w10 ⟨rfl, hb10⟩
          have HB10 := Lib.hid (bcall HB9.out hb10)
          go_wp2_with fail
          go_ret
          exact ⟨by first | rfl | simp, HB10.out⟩

theorem reads : Tryd.f3.params.toList.all (fun t => Tryd.prog.readableRec t && decide (t < Tryd.prog.types.size)) = true := by kernel_rfl
theorem et : Tryd.prog.globalNamed "errors.errorType" = some 0 := by kernel_rfl
theorem rt : (Tryd.prog.cutTypes.find? (·.1 == "internal/reflectlite.rtype")).map (·.2) = some 70 := by kernel_rfl
theorem oneRow : ((List.range Tryd.prog.types.size).filter fun t => Tryd.prog.rowNamed t [101, 114, 114, 111, 114]) = [26] := by kernel_rfl

theorem handle_of_laid {W : World} (h : laidMetH Tryd.prog Rows.vectorSaysRow.laid W) : Handle W := by
  have h' : laidMet Tryd.prog [] W ∧ handlesMet Tryd.prog Rows.vectorSaysRow.laid W := h
  obtain ⟨name, u, ty, e1, e2, e3, e4, e5⟩ := h'.2 _ (List.mem_singleton.2 rfl)
  have en : name = [101, 114, 114, 111, 114] := (Option.some.inj e1).symm
  subst en
  obtain rfl := Option.some.inj (rt.symm.trans e2)
  have hm : ty ∈ (List.range Tryd.prog.types.size).filter fun t => Tryd.prog.rowNamed t [101, 114, 114, 111, 114] := List.mem_filter.2 ⟨List.mem_range.2 e3, e4⟩
  rw [oneRow] at hm
  obtain rfl := List.mem_singleton.1 hm
  have hh : typeHandle Tryd.prog 26 = .pointer (some ⟨1, 26, none⟩) := by kernel_rfl
  rw [hh] at e5
  have e6 := World.var?_cell et e5 0
  unfold Handle
  simpa using e6

noncomputable def laidWorld (os : Os) : World :=
  { World.holding Tryd.prog os ⟨#[], #[], []⟩ with heap := (World.holding Tryd.prog os ⟨#[], #[], []⟩).heap.modify 0 fun
      | .cells _ t frozen => .cells #[.iface 70 (.agg #[.pointer (some ⟨1, 26, none⟩)])] t frozen
      | o => o }
theorem laid_met (os : Os) : laidMetH Tryd.prog Rows.vectorSaysRow.laid ((laidWorld os).forCall (fun _ _ => 0) ⟨#[], #[.int .i64 0, .slice none 0 0, .int .i64 0], []⟩).memory :=
  laidMetH_of_parts (laidMet_nil _ _) (by kernel_rfl)
theorem reads_wit (os : Os) {H : Type} (enc : TypeId × Value → H) : ∃ places, DataW.whole enc Tryd.prog ((laidWorld os).forCall (fun _ _ => 0) ⟨#[], #[.int .i64 0, .slice none 0 0, .int .i64 0], []⟩).memory Tryd.f3.params.toList Rows.vectorSaysSpec.vars false (#[.int .i64 0, .slice none 0 0, .int .i64 0] : Array Value).toList 8 = some ([.lit (.int .i64 0), .nil, .lit (.int .i64 0)], [], places) :=
  ⟨[], by kernel_rfl⟩

theorem contract (H : Type) (enc : TypeId × Value → H) (W : World) (base : Nat) (args : Array Value) (ds gs : List (DataW H)) (before : List MemPlace)
    (hval : ∀ (j : Nat) t v, Tryd.f3.params[j]? = some t → args[j]? = some v → Value.okWide Tryd.prog W .any base t v)
    (hW : DataW.Whole enc Tryd.prog Tryd.f3.params.toList Rows.vectorSaysSpec.vars false W args.toList ds gs before) (hL : laidMetH Tryd.prog Rows.vectorSaysRow.laid W) :
    Calls Tryd.prog 3 args W fun e W' => ∃ v, e = .returned v ∧ Rows.vectorSaysSpec.post enc Tryd.prog Tryd.f3 false true false false W args v W' := by
  have hW' := hW
  have hg := handle_of_laid hL
  obtain ⟨p, q, hA0, hV, rfl, hfz, hnd⟩ := hW
  have hA : DataW.TrodAll enc Tryd.prog W 0 (fun _ => true) true Tryd.f3.params.toList args.toList ds p := hA0
  have hlt := hA.lt
  rw [Tryd.params3] at hA hval
  obtain ⟨v0, vs0, d0, ds0, p0, q0, hargs, rfl, rfl, h0, r0⟩ := trodAll_cons hA
  obtain ⟨v1, vs1, d1, ds1, p1, q1, hvs1, rfl, rfl, h1, r1⟩ := trodAll_cons r0
  obtain ⟨v2, vs2, d2, ds2, p2, q2, hvs2, rfl, rfl, h2, r2⟩ := trodAll_cons r1
  obtain ⟨hvsn, rfl, rfl⟩ := trodAll_nil r2
  simp only [hvsn, hvs2, hvs1] at hargs
  obtain rfl : args = #[v0, v1, v2] := by cases args; simp_all
  obtain ⟨a0, rfl, rfl, rfl, w0⟩ := open_int Tryd.underlying3 (hval 0 3 v0 rfl rfl) h0
  have b0 := bounds_int w0
  obtain ⟨p1a, cap1, l1, rfl, i1, e1⟩ := Go.Proofs.YthggfkdpggfkbaaDoor.Vector.open_links (hval 1 22 v1 rfl rfl) h1 (fun x hx => hlt x (by simp [hx]))
  obtain ⟨a2, rfl, rfl, rfl, w2⟩ := open_int Tryd.underlying3 (hval 2 3 v2 rfl rfl) h2
  have b2 := bounds_int w2
  obtain ⟨rfl, rfl⟩ := trodVars_none hV
  clear hA0
  exact law_post 4 laid reads rfl Tryd.underlying4 rfl hW' ⟨rfl, rfl, rfl⟩ (by
    by_cases h : code a0 l1 = 0
    · obtain ⟨k, rfl, g⟩ := good_of h
      exact law_good k _ _ _ l1 _ W hg rfl i1 g
    · exact law_bad _ _ _ _ l1 _ W hg rfl i1 _ rfl h)

set_option maxRecDepth 100000 in
theorem lifted (os : Os) (started : os.Started) (H : Type) (enc : TypeId × Value → H) (F : Stop.Interp) :
    ReturnsInHanded {} Tryd.checked os 3 .any ((OpenSpec.ofChange Rows.vectorSaysSpec).preRow enc Tryd.prog Tryd.f3 Rows.vectorSaysRow.domain false Rows.vectorSaysRow.laid) (((OpenSpec.ofChange Rows.vectorSaysSpec).at F).post enc Tryd.prog Tryd.f3 false true false false) := by
  obtain ⟨places, hx⟩ := reads_wit os enc
  refine returnsInHanded_of_row (C := Tryd.checked) (s := (OpenSpec.ofChange Rows.vectorSaysSpec)) own started (by kernel_rfl) Tryd.func3
    (witness_row_at (enc := enc) (C := Tryd.checked) false (laidWorld os) #[.int .i64 0, .slice none 0 0, .int .i64 0] rfl (by kernel_rfl) (by kernel_rfl) (by kernel_rfl)
      (OpenSpec.preRow_of_cond 8 hx (by kernel_rfl) (fun k hk => by cases hk) (by kernel_rfl) (laid_met os))) ?_
  intro W base args ds gs before hval hW _ hcond _ hL _ _
  exact contract H enc W base args ds gs before hval hW hL

theorem said : Rows.VectorSaysSaid :=
  OpenClaim.holds_of_cond 3 Tryd.f3 rfl rfl rfl rfl rfl rfl rfl ⟨rfl, rfl, rfl, rfl, rfl⟩ rfl rfl rfl rfl rfl (by kernel_rfl) Tryd.func3 (by kernel_rfl)
    (of_decide_eq_true (by kernel_rfl)) (by unfold Func.isWrapper; first | (rw [if_pos (by decide +kernel)]; kernel_rfl) | (rw [if_neg (by decide +kernel)]; exact ⟨rfl, rfl⟩))
    (fun os started H enc _ F => by rw [OpenClaim.pre_eq_preRow]; exact lifted os started H enc F)

theorem plain (f : FuncId) (fn : Func) (hf : Tryd.pinned.checked.prog.funcNamed Rows.vectorSaysRow.func = some f) (hfn : Tryd.pinned.checked.prog.funcs[f]? = some fn) :
    true = Tryd.pinned.checked.prog.looks [] ∧ ∀ (j : Nat) t, fn.params[j]? = some t → Tryd.pinned.checked.prog.wantsStandIn t = false := by
  obtain rfl : f = 3 := Option.some.inj ((show Tryd.prog.funcNamed Rows.vectorSaysRow.func = some 3 by kernel_rfl).symm.trans hf) |>.symm
  obtain rfl : fn = Tryd.f3 := (Option.some.inj (Tryd.func3.symm.trans hfn)).symm
  refine ⟨by kernel_rfl, fun j t ht => ?_⟩
  have hall : Tryd.f3.params.toList.all (fun t => !Tryd.prog.wantsStandIn t) = true := by kernel_rfl
  have hm : t ∈ Tryd.f3.params.toList := by simpa using Array.mem_of_getElem? ht
  have := List.all_eq_true.1 hall t hm
  show Tryd.prog.wantsStandIn t = false
  simpa using this

theorem proved : Rows.VectorSaysCardSaid :=
  Claim7.holds_tied_plain_at .later [] _ _ _ _ said (fun _ h => by cases h) (by kernel_rfl) (fun _ h => by cases h) vectorSays_row_tie rfl ⟨rfl, rfl⟩ (by kernel_rfl) rfl plain (by kernel_rfl)
end Go.Proofs.YthggfkdpggfkbaaDoor.VectorSaysL
