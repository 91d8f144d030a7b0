/- The functions of package frag return what the document specifies: the law returns true for every input. No condition. -/
import Derived.Test.YtaflpdagehocfaaDoorFragSays1
import Derived.Test.YtaflpdagehocfaaDoorOrderWant
import Derived.Test.YtaflpdagehocfaaDoorCards
import Derived.Test.YtaflpdagehocfaaDoorTie
import Derived.Deep.DeepHandedRow
import Derived.Lib.LaidTab
import Derived.LaidHandle
import Derived.SevenTiedAt
namespace Go.Proofs.YtaflpdagehocfaaDoor.fragSaysP
open Go.ChangeShapes Go.WideShapes Go.ChangeAt Go.RowKit
open Go.Proofs.YtaflpdagehocfaaDoor.Kit Go.Proofs.YtaflpdagehocfaaDoor.App Go.Proofs.YtaflpdagehocfaaDoor.Cells Go.Proofs.YtaflpdagehocfaaDoor.Part Go.Proofs.YtaflpdagehocfaaDoor.As
set_option linter.unusedVariables false
set_option maxRecDepth 20000

set_option maxHeartbeats 8000000 in
theorem law_few (s : ByteArray) (a0 : Int) (x : Prt) (p : Option Addr) (cap : Nat) (l : List Prt) (w : World) (hg : Handle w) (hx : Fits x) (hc : CI lay w p cap l) (hF : ∀ x ∈ l, Fits x) (h40l : l.length ≤ 40) : Law s a0 x p cap l w := by
  obtain ⟨V1, e1, L1, rc1, fc1, er1⟩ := both_cut s a0
  obtain ⟨V2, e2, L2, rc2, fc2, er2⟩ := both_again x a0 hx
  obtain ⟨V3, e3, rs, rc3, fc3, er3⟩ := both_join p cap l hF
  have RC1 := Lib.hid rc1
  have FC1 := Lib.hid fc1
  have ER1 := Lib.hid er1
  have ER2 := Lib.hid er2
  have RJ := Lib.hid rc3
  have FJ := Lib.hid fc3
  have ER3 := Lib.hid er3
  have HG := Lib.hid (fun W (hb : Below w.heap.size w W) => hg.below hb)
  have HC := Lib.hid (fun W (hb : Below w.heap.size w W) => hc.below hb)
  have hlen := hc.len_le
  have hmix := mixedP
  have u0 : (rs.toList == rs.toList) = true := by simp
  have t0 : decide ((l.length : Int) > 40) = false := decide_eq_false (by omega)
  have FO0 := Lib.hid (fun W (hb : Below w.heap.size w W) => Srt.forder_any p cap l.length l W rfl (hc.below hb) h40l)
  obtain ⟨xp, xm, xs⟩ := x
  unfold val at rc2 fc2
  simp only at rc2 fc2
  have RC2 := Lib.hid rc2
  have FC2 := Lib.hid fc2
  clear rc1 fc1 er1 rc2 fc2 er2 rc3 fc3 er3 hg hc hF hx
  unfold Law val
  simp only
  go_enter Tryd.func3, Tryd.ntmps3
  go_wp2_with fail
  have B0 : Below w.heap.size w (w.alloc (.cells #[.int .i64 xp, .bool xm, .string xs] 23)) := balloc (brefl w) _
  have bx := Box.new w ⟨xp, xm, xs⟩ 23
  refine (RC1.out _).mono ?_; rintro e w11 ⟨p11, c11, rfl, i11, hb⟩
  have B11 := B0.trans (hb.mono B0.size)
  have bx := bx.below hb (by simp)
  clear hb
  go_wp2_with fail
  refine (FC1.out _).mono ?_; rintro e w12 ⟨p12, c12, rfl, i12, hb⟩
  have B12 := bcall B11 hb
  have i11 := i11.below hb
  have bx := bx.below hb bx.1
  clear hb
  go_wp2_with fail
  refine (ER1.out _ (HG.out _ B12)).mono ?_; rintro e w13 ⟨rfl, hb⟩
  have B13 := bcall B12 hb
  have i11 := i11.below hb
  have i12 := i12.below hb
  have bx := bx.below hb bx.1
  clear hb
  go_wp2_with fail
  refine (parts_any p12 p11 c12 c11 L1.length L1.length L1 L1 w13 rfl rfl i12 i11 true ⟨fun _ => rfl, fun _ => rfl⟩).mono ?_; rintro e w14 ⟨rfl, q1, rfl⟩
  have B14 := below_drewN B13 q1
  clear i11 i12 B11 B12 B13
  have bx := bx.below (below_drewN (brefl w13) q1) bx.1
  have BX := Lib.hid bx
  obtain ⟨bx0, x0, x1, x2⟩ := bx
  simp only at x0 x1 x2
  go_wp2_with fail
  refine (RC2.out _).mono ?_; rintro e w21 ⟨p21, c21, rfl, i21, hb⟩
  have B21 := B14.trans (hb.mono B14.size)
  have bx2 := BX.out.below hb bx0
  obtain ⟨_, y0, y1, y2⟩ := bx2
  simp only at y0 y1 y2
  clear x0 x1 x2
  clear hb
  go_wp2_with fail
  refine (FC2.out _).mono ?_; rintro e w22 ⟨p22, c22, rfl, i22, hb⟩
  have B22 := bcall B21 hb
  have i21 := i21.below hb
  clear y0 y1 y2
  clear hb
  go_wp2_with fail
  refine (ER2.out _ (HG.out _ B22)).mono ?_; rintro e w23 ⟨rfl, hb⟩
  have B23 := bcall B22 hb
  have i21 := i21.below hb
  have i22 := i22.below hb
  clear hb
  go_wp2_with fail
  refine (parts_any p22 p21 c22 c21 L2.length L2.length L2 L2 w23 rfl rfl i22 i21 true ⟨fun _ => rfl, fun _ => rfl⟩).mono ?_; rintro e w24 ⟨rfl, q2, rfl⟩
  have B24 := below_drewN B23 q2
  clear i21 i22 B21 B22 B23
  go_wp2_with fail
  refine (RJ.out _ (HC.out _ B24)).mono ?_; rintro e w31 ⟨rfl, hb⟩
  have B31 := bcall B24 hb
  clear hb
  go_wp2_with fail
  refine (FJ.out _ (HC.out _ B31)).mono ?_; rintro e w32 ⟨rfl, hb⟩
  have B32 := bcall B31 hb
  clear hb
  go_wp2_with fail
  refine (ER3.out _ (HG.out _ B32)).mono ?_; rintro e w33 ⟨rfl, hb⟩
  have BS := bcall B32 hb
  clear hb
  have HCL0 := HC.out _ BS
  obtain ⟨n, hn⟩ : ∃ n, l.length = n := ⟨_, rfl⟩
  have HN := Lib.hid hn
  have FO := FO0
  rw [hn] at FO h40l hlen t0 ⊢
  have h40 : n ≤ 40 := h40l
  have HCL := Lib.hid HCL0
  have BS0 := Lib.hid BS
  clear HCL0 hn FO0 RJ FJ ER1 ER2 ER3 RC1 RC2 FC1 FC2 HC B24 B31 B32
  have wSd := True.intro
  go_wp2_with fail
  go_loopw [9, 18] (fun wv av wr => ∃ (a : Nat) (Q : List Prt), a ≤ n ∧ av = .int .i64 a ∧ OC lay 23 wr w33.heap.size wv Q ∧ Below w33.heap.size w33 wr ∧ Q.length ≤ a * n ∧ Hid (Q = ((List.range a).flatMap fun a => (List.range n).filter fun i => rank l i == a).map (nth l))) (fun _ a _ => n - (intOf a).toNat)
  case atStart => exact ⟨0, [], Nat.zero_le _, rfl, OC.nil _ _ _ _, brefl _, by simp, rfl⟩
  case round =>
    obtain ⟨a, Q, ha, rfl, hown, hB, hQl, hQ⟩ := hrel
    by_cases hlt : a < n
    · have u1 : decide ((a : Int) < (n : Int)) = true := decide_eq_true (by omega)
      have han : a * n ≤ 1600 := Nat.le_trans (Nat.mul_le_mul (show a ≤ 40 by omega) h40) (by omega)
      go_wp2_with fail
      go_loopw [9, 19] (fun wv iv wi => ∃ (i : Nat) (Q2 : List Prt), i ≤ n ∧ iv = .int .i64 i ∧ OC lay 23 wi w33.heap.size wv Q2 ∧ Below w33.heap.size w33 wi ∧ Q2.length ≤ a * n + i ∧ Hid (Q2 = Q ++ ((List.range i).filter fun i => rank l i == a).map (nth l))) (fun _ i _ => n - (intOf i).toNat)
      case atStart => exact ⟨0, Q, Nat.zero_le _, rfl, hown, hB, by omega, by show Q = Q ++ _; simp⟩
      case round =>
        clear hown hB hQl
        obtain ⟨i, Q2, hi, rfl, hown, hB, hQ2l, hQ2⟩ := hrel
        have hBs := hB.size
        by_cases hlt2 : i < n
        · have u2 : decide ((i : Int) < (n : Int)) = true := decide_eq_true (by omega)
          obtain ⟨ql, ol, rfl, hql, hcl⟩ := HCL.out.2.2 (by rw [HN.out]; omega)
          obtain ⟨⟨x1, x2, x3⟩, hx⟩ : ∃ x, l[i]? = some x := ⟨_, List.getElem?_eq_getElem (by rw [HN.out]; omega)⟩
          have hx0 : wr.cell? ⟨ql, ol + i * 3, none⟩ = some (.int .i64 x1) := (hB.cell (p := ⟨ql, ol + i * 3, none⟩) hql).trans (hcl i _ hx 0 _ rfl)
          have hx1 : wr.cell? ⟨ql, ol + i * 3 + 1, none⟩ = some (.bool x2) := (hB.cell (p := ⟨ql, ol + i * 3 + 1, none⟩) hql).trans (hcl i _ hx 1 _ rfl)
          have hx2 : wr.cell? ⟨ql, ol + i * 3 + 2, none⟩ = some (.string x3) := (hB.cell (p := ⟨ql, ol + i * 3 + 2, none⟩) hql).trans (hcl i _ hx 2 _ rfl)
          have HX := Lib.hid (show nth l i = ⟨x1, x2, x3⟩ by unfold nth; rw [hx]; rfl)
          have HCLC := Lib.hid hcl
          clear hcl hx
          go_wp2_with fail
          go_loopw [20, 21] (fun nv kv wk => ∃ k u : Nat, k ≤ n ∧ kv = .int .i64 k ∧ nv = .int .i64 ((List.range k).countP (fun k => bef l k i) : Nat) ∧ wk = wr.drewN u) (fun _ k _ => n - (intOf k).toNat)
          case atStart => exact ⟨0, 0, Nat.zero_le _, rfl, rfl, rfl⟩
          case round =>
            obtain ⟨k, u, hk, rfl, rfl, rfl⟩ := hrel
            have hcc : (List.range k).countP (fun k => bef l k i) ≤ k := by
              have := List.countP_le_length (p := fun k => bef l k i) (l := List.range k)
              rwa [List.length_range] at this
            obtain ⟨cc, hc1⟩ : ∃ cc, (List.range k).countP (fun k => bef l k i) = cc := ⟨_, rfl⟩
            rw [hc1] at hcc ⊢
            have HCC := Lib.hid hc1
            have hcb : cc ≤ 40 := by omega
            clear hc1 hcc
            by_cases hlt3 : k < n
            · have u3 : decide ((k : Int) < (n : Int)) = true := decide_eq_true (by omega)
              obtain ⟨⟨y1, y2, y3⟩, hy⟩ : ∃ x, l[k]? = some x := ⟨_, List.getElem?_eq_getElem (by rw [HN.out]; omega)⟩
              have hy0 : wr.cell? ⟨ql, ol + k * 3, none⟩ = some (.int .i64 y1) := (hB.cell (p := ⟨ql, ol + k * 3, none⟩) hql).trans (HCLC.out k _ hy 0 _ rfl)
              have HY := Lib.hid (show nth l k = ⟨y1, y2, y3⟩ by unfold nth; rw [hy]; rfl)
              have HS : Hid ((List.range (k + 1)).countP (fun k => bef l k i) = cc + (if bef l k i = true then 1 else 0)) := by
                show _ = _
                rw [List.range_succ, List.countP_append, HCC.out]
                congr 1
                by_cases hb : bef l k i = true
                · rw [if_pos hb]; simp [hb]
                · rw [if_neg hb]; simp [hb]
              have HBE : Hid (bef l k i = (decide (y1 < x1) || (decide (y1 = x1) && decide (k < i)))) := by
                show _ = _
                unfold bef
                rw [HX.out, HY.out]
              clear hy
              by_cases e1 : y1 < x1
              · have v1 : decide (y1 < x1) = true := decide_eq_true e1
                have HB1 : Hid ((List.range (k + 1)).countP (fun k => bef l k i) = cc + 1) := HS.out.trans (by rw [if_pos (by rw [HBE.out, v1]; rfl)])
                go_wp2_with fail
                go_big_region_o
                go_wp2_with fail
                go_roundw
                case rel => exact ⟨k + 1, u + 1, by omega, by first | rfl | go_num, by rw [HB1.out] <;> first | rfl | go_num, rfl⟩
                case measure => simp [intOf]; omega
              · have v1 : decide (y1 < x1) = false := decide_eq_false e1
                by_cases e2 : y1 = x1
                · subst e2
                  have v2 : (y1 == y1) = true := by simp
                  by_cases e3 : k < i
                  · have v3 : decide ((k : Int) < (i : Int)) = true := decide_eq_true (by omega)
                    have HB1 : Hid ((List.range (k + 1)).countP (fun k => bef l k i) = cc + 1) := HS.out.trans (by rw [if_pos (by rw [HBE.out]; simp [e3])])
                    go_wp2_with fail
                    go_big_region_o
                    go_wp2_with fail
                    go_roundw
                    case rel => exact ⟨k + 1, u + 1, by omega, by first | rfl | go_num, by rw [HB1.out] <;> first | rfl | go_num, rfl⟩
                    case measure => simp [intOf]; omega
                  · have v3 : decide ((k : Int) < (i : Int)) = false := decide_eq_false (by omega)
                    have HB1 : Hid ((List.range (k + 1)).countP (fun k => bef l k i) = cc) := HS.out.trans (by rw [if_neg (by rw [HBE.out]; simp [e3])]; rfl)
                    go_wp2_with fail
                    go_big_region_o
                    go_wp2_with fail
                    go_roundw
                    case rel => exact ⟨k + 1, u + 1, by omega, by first | rfl | go_num, by rw [HB1.out] <;> first | rfl | go_num, rfl⟩
                    case measure => simp [intOf]; omega
                · have v2 : (y1 == x1) = false := beq_eq_false_iff_ne.2 e2
                  have HB1 : Hid ((List.range (k + 1)).countP (fun k => bef l k i) = cc) := HS.out.trans (by rw [if_neg (by rw [HBE.out, v1]; simp [e2])]; rfl)
                  go_wp2_with fail
                  go_big_region_o
                  go_wp2_with fail
                  go_roundw
                  case rel => exact ⟨k + 1, u + 1, by omega, by first | rfl | go_num, by rw [HB1.out] <;> first | rfl | go_num, rfl⟩
                  case measure => simp [intOf]; omega
            · have u3 : decide ((k : Int) < (n : Int)) = false := decide_eq_false (by omega)
              obtain rfl : k = n := by omega
              have HRK : Hid (rank l i = cc) := by show _ = _; unfold rank; rw [HN.out]; exact HCC.out
              have hou := oc_drewN hown u
              have hBu : Below w33.heap.size w33 (wr.drewN u) := below_drewN hB u
              by_cases e5 : cc = a
              · have v5 : ((cc : Int) == (a : Int)) = true := by rw [beq_iff_eq]; omega
                have HQ3 : Hid (Q2 ++ [(⟨x1, x2, x3⟩ : Prt)] = Q ++ ((List.range (i + 1)).filter fun i => rank l i == a).map (nth l)) := by
                  show _ = _
                  rw [List.range_succ, List.filter_append, List.map_append, ← List.append_assoc, ← hQ2.out]
                  have : ([i].filter fun i => rank l i == a) = [i] := by simp [HRK.out, e5]
                  rw [this, List.map_cons, List.map_nil, HX.out]
                have hba : ∀ o, w33.heap.size ≤ ((wr.drewN u).alloc o).heap.size := fun o => by rw [asz]; exact Nat.le_trans hBs (Nat.le_succ _)
                clear hown hB
                go_wp2_with (at_builtin
                             refine wp_appC ty rfl (.tmp 139) (.tmp 144) rfl w33.heap.size _ Q2 (some ⟨wr.heap.size, 0, none⟩) 1 1 [⟨x1, x2, x3⟩] rfl (hou.alloc _) rfl rfl (CI.one lay (wr.drewN u) _ _) (by rw [List.length_singleton]; omega) (hba _) ?_
                             intro v6 w6 hown6 hg6 hat6
                             have hB6 : Below w33.heap.size w33 w6 := below_oneC hBu hBs _ hou hg6
                             clear hat6 hg6)
                go_roundw
                case rel => exact ⟨i + 1, Q2 ++ [⟨x1, x2, x3⟩], by omega, by first | rfl | go_num, hown6, hB6, by rw [List.length_append, List.length_singleton]; omega, HQ3⟩
                case measure => simp [intOf]; omega
              · have v5 : ((cc : Int) == (a : Int)) = false := by rw [beq_eq_false_iff_ne]; omega
                have HQ3 : Hid (Q2 = Q ++ ((List.range (i + 1)).filter fun i => rank l i == a).map (nth l)) := by
                  show _ = _
                  rw [List.range_succ, List.filter_append, List.map_append, ← List.append_assoc, ← hQ2.out]
                  have : ([i].filter fun i => rank l i == a) = [] := by simp [HRK.out, e5]
                  rw [this]; simp
                clear hown hB
                go_wp2_with fail
                go_roundw
                case rel => exact ⟨i + 1, Q2, by omega, by first | rfl | go_num, hou, hBu, by omega, HQ3⟩
                case measure => simp [intOf]; omega
        · have u2 : decide ((i : Int) < (n : Int)) = false := decide_eq_false (by omega)
          obtain rfl : i = n := by omega
          have HQ3 : Hid (Q2 = ((List.range (a + 1)).flatMap fun a => (List.range i).filter fun j => rank l j == a).map (nth l)) := by
            show _ = _
            rw [List.range_succ, List.flatMap_append, List.map_append, ← hQ.out, hQ2.out]
            simp
          go_wp2_with fail
          go_roundw
          case rel => exact ⟨a + 1, Q2, by omega, by first | rfl | go_num, hown, hB, by rw [Nat.succ_mul]; exact hQ2l, HQ3⟩
          case measure => simp [intOf]; omega
    · have u1 : decide ((a : Int) < (n : Int)) = false := decide_eq_false (by omega)
      obtain rfl : a = n := by omega
      have HW : Hid (Q = wantL l) := by
        show _ = _
        rw [hQ.out]
        unfold wantL places
        rw [HN.out]
      obtain ⟨pq, cq, rfl, iq⟩ := hown.form
      have hBf : Below w.heap.size w wr := BS.trans (hB.mono BS.size)
      have hlw := iq.len_le
      clear hown
      go_wp2_with fail
      refine (FO.out _ hBf).mono ?_; rintro e w7 ⟨po, co, mo, rfl, hO, io, hb⟩
      have B7 := bcall hBf hb
      have iq := iq.below hb
      have hmo : mo = Q := (ordered_want hO).trans HW.out.symm
      have hmn := Lib.hid (show mo.length = a from (ordered_perm hO).length_eq.trans HN.out)
      subst hmo
      clear hb hO
      go_wp2_with fail
      refine (err_nil _).mono ?_; rintro e w8 ⟨rfl, hb⟩
      have B8 := bcall B7 hb
      have iq := iq.below hb
      have io := io.below hb
      clear hb
      go_wp2_with fail
      refine (parts_any po pq co cq a mo.length mo mo w8 hmn.out.symm rfl io iq true ⟨fun _ => rfl, fun _ => rfl⟩).mono ?_; rintro e w9 ⟨rfl, q9, rfl⟩
      have B9 := below_drewN B8 q9
      go_wp2_with fail
      go_ret
      exact ⟨rfl, B9⟩
theorem law_any (s : ByteArray) (a0 : Int) (x : Prt) (p : Option Addr) (cap : Nat) (l : List Prt) (w : World) (hg : Handle w) (hx : Fits x) (hc : CI lay w p cap l) (hF : ∀ x ∈ l, Fits x) : Law s a0 x p cap l w := by
  by_cases h : 40 < l.length
  · exact law_many s a0 x p cap l w hg hx hc hF h
  · exact law_few s a0 x p cap l w hg hx hc hF (by omega)

theorem reads : Tryd.f3.params.toList.all (fun t => Tryd.prog.readableRec t && decide (t < Tryd.prog.types.size)) = true := by kernel_rfl
theorem et : Tryd.prog.globalNamed "errors.errorType" = some 0 := by kernel_rfl
theorem rt : (Tryd.prog.cutTypes.find? (·.1 == "internal/reflectlite.rtype")).map (·.2) = some 86 := by kernel_rfl
theorem oneRow : ((List.range Tryd.prog.types.size).filter fun t => Tryd.prog.rowNamed t [101, 114, 114, 111, 114]) = [28] := by kernel_rfl

theorem handle_of_laid {W : World} (h : laidMetH Tryd.prog Rows.fragSaysRow.laid W) : Handle W := by
  have h' : laidMet Tryd.prog [] W ∧ handlesMet Tryd.prog Rows.fragSaysRow.laid W := h
  obtain ⟨name, u, ty, e1, e2, e3, e4, e5⟩ := h'.2 _ (List.mem_singleton.2 rfl)
  have en : name = [101, 114, 114, 111, 114] := (Option.some.inj e1).symm
  subst en
  obtain rfl := Option.some.inj (rt.symm.trans e2)
  have hm : ty ∈ (List.range Tryd.prog.types.size).filter fun t => Tryd.prog.rowNamed t [101, 114, 114, 111, 114] := List.mem_filter.2 ⟨List.mem_range.2 e3, e4⟩
  rw [oneRow] at hm
  obtain rfl := List.mem_singleton.1 hm
  have hh : typeHandle Tryd.prog 28 = .pointer (some ⟨1, 28, none⟩) := by kernel_rfl
  rw [hh] at e5
  have e6 := World.var?_cell et e5 0
  unfold Handle
  simpa using e6

noncomputable def laidWorld (os : Os) : World :=
  { World.holding Tryd.prog os ⟨#[], #[], []⟩ with heap := (World.holding Tryd.prog os ⟨#[], #[], []⟩).heap.modify 0 fun
      | .cells _ t frozen => .cells #[.iface 86 (.agg #[.pointer (some ⟨1, 28, none⟩)])] t frozen
      | o => o }
theorem laid_met (os : Os) : laidMetH Tryd.prog Rows.fragSaysRow.laid ((laidWorld os).forCall (fun _ _ => 0) ⟨#[], #[.string .empty, .int .i64 0, .agg #[.int .i64 0, .bool false, .string .empty], .slice none 0 0], []⟩).memory :=
  laidMetH_of_parts (laidMet_nil _ _) (by kernel_rfl)
theorem reads_wit (os : Os) {H : Type} (enc : TypeId × Value → H) : ∃ places, DataW.whole enc Tryd.prog ((laidWorld os).forCall (fun _ _ => 0) ⟨#[], #[.string .empty, .int .i64 0, .agg #[.int .i64 0, .bool false, .string .empty], .slice none 0 0], []⟩).memory Tryd.f3.params.toList Rows.fragSaysSpec.vars false (#[.string .empty, .int .i64 0, .agg #[.int .i64 0, .bool false, .string .empty], .slice none 0 0] : Array Value).toList 8 = some ([.lit (.string []), .lit (.int .i64 0), .agg [.lit (.int .i64 0), .lit (.bool false), .lit (.string [])], .nil], [], places) :=
  ⟨[], by kernel_rfl⟩

theorem contract (H : Type) (enc : TypeId × Value → H) (W : World) (base : Nat) (args : Array Value) (ds gs : List (DataW H)) (before : List MemPlace)
    (hval : ∀ (j : Nat) t v, Tryd.f3.params[j]? = some t → args[j]? = some v → Value.okWide Tryd.prog W .any base t v)
    (hW : DataW.Whole enc Tryd.prog Tryd.f3.params.toList Rows.fragSaysSpec.vars false W args.toList ds gs before) (hL : laidMetH Tryd.prog Rows.fragSaysRow.laid W) :
    Calls Tryd.prog 3 args W fun e W' => ∃ v, e = .returned v ∧ Rows.fragSaysSpec.post enc Tryd.prog Tryd.f3 false true false false W args v W' := by
  have hW' := hW
  have hg := handle_of_laid hL
  obtain ⟨p, q, hA0, hV, rfl, hfz, hnd⟩ := hW
  have hA : DataW.TrodAll enc Tryd.prog W 0 (fun _ => true) true Tryd.f3.params.toList args.toList ds p := hA0
  have hlt := hA.lt
  rw [Tryd.params3] at hA hval
  obtain ⟨v0, vs0, d0, ds0, p0, q0, hargs, rfl, rfl, h0, r0⟩ := trodAll_cons hA
  obtain ⟨v1, vs1, d1, ds1, p1, q1, hvs1, rfl, rfl, h1, r1⟩ := trodAll_cons r0
  obtain ⟨v2, vs2, d2, ds2, p2, q2, hvs2, rfl, rfl, h2, r2⟩ := trodAll_cons r1
  obtain ⟨v3, vs3, d3, ds3, p3, q3, hvs3, rfl, rfl, h3, r3⟩ := trodAll_cons r2
  obtain ⟨hvsn, rfl, rfl⟩ := trodAll_nil r3
  simp only [hvsn, hvs3, hvs2, hvs1] at hargs
  obtain rfl : args = #[v0, v1, v2, v3] := by cases args; simp_all
  obtain ⟨s0, rfl, rfl, rfl, z0⟩ := Go.ChangeMaps.open_string Tryd.underlying9 (hval 0 9 v0 rfl rfl) h0
  obtain ⟨a1, rfl, rfl, rfl, w1⟩ := open_int Tryd.underlying3 (hval 1 3 v1 rfl rfl) h1
  have b1 := bounds_int w1
  obtain ⟨x2, rfl, f2⟩ := Go.Proofs.YtaflpdagehocfaaDoor.Part.open_part (hval 2 23 v2 rfl rfl) h2
  obtain ⟨p3a, cap3, l3, rfl, i3, f3, e3⟩ := Go.Proofs.YtaflpdagehocfaaDoor.Part.open_parts (hval 3 24 v3 rfl rfl) h3 (fun x hx => hlt x (by simp [hx]))
  obtain ⟨rfl, rfl⟩ := trodVars_none hV
  clear hA0
  exact law_post 4 laid reads rfl Tryd.underlying4 rfl hW' ⟨rfl, rfl, rfl⟩ (law_any s0 a1 x2 p3a cap3 l3 W hg f2 i3 f3)

set_option maxRecDepth 100000 in
theorem lifted (os : Os) (started : os.Started) (H : Type) (enc : TypeId × Value → H) (F : Stop.Interp) :
    ReturnsInHanded {} Tryd.checked os 3 .any ((OpenSpec.ofChange Rows.fragSaysSpec).preRow enc Tryd.prog Tryd.f3 Rows.fragSaysRow.domain false Rows.fragSaysRow.laid) (((OpenSpec.ofChange Rows.fragSaysSpec).at F).post enc Tryd.prog Tryd.f3 false true false false) := by
  obtain ⟨places, hx⟩ := reads_wit os enc
  refine returnsInHanded_of_row (C := Tryd.checked) (s := (OpenSpec.ofChange Rows.fragSaysSpec)) own started (by kernel_rfl) Tryd.func3
    (witness_row_at (enc := enc) (C := Tryd.checked) false (laidWorld os) #[.string .empty, .int .i64 0, .agg #[.int .i64 0, .bool false, .string .empty], .slice none 0 0] rfl (by kernel_rfl) (by kernel_rfl) (by kernel_rfl)
      (OpenSpec.preRow_of_cond 8 hx (by kernel_rfl) (fun k hk => by cases hk) (by kernel_rfl) (laid_met os))) ?_
  intro W base args ds gs before hval hW _ hcond _ hL _ _
  exact contract H enc W base args ds gs before hval hW hL

theorem said : Rows.FragSaysSaid :=
  OpenClaim.holds_of_cond 3 Tryd.f3 rfl rfl rfl rfl rfl rfl rfl ⟨rfl, rfl, rfl, rfl, rfl⟩ rfl rfl rfl rfl rfl (by kernel_rfl) Tryd.func3 (by kernel_rfl)
    (of_decide_eq_true (by kernel_rfl)) (by unfold Func.isWrapper; first | (rw [if_pos (by decide +kernel)]; kernel_rfl) | (rw [if_neg (by decide +kernel)]; exact ⟨rfl, rfl⟩))
    (fun os started H enc _ F => by rw [OpenClaim.pre_eq_preRow]; exact lifted os started H enc F)

theorem plain (f : FuncId) (fn : Func) (hf : Tryd.pinned.checked.prog.funcNamed Rows.fragSaysRow.func = some f) (hfn : Tryd.pinned.checked.prog.funcs[f]? = some fn) :
    true = Tryd.pinned.checked.prog.looks [] ∧ ∀ (j : Nat) t, fn.params[j]? = some t → Tryd.pinned.checked.prog.wantsStandIn t = false := by
  obtain rfl : f = 3 := Option.some.inj ((show Tryd.prog.funcNamed Rows.fragSaysRow.func = some 3 by kernel_rfl).symm.trans hf) |>.symm
  obtain rfl : fn = Tryd.f3 := (Option.some.inj (Tryd.func3.symm.trans hfn)).symm
  refine ⟨by kernel_rfl, fun j t ht => ?_⟩
  have hall : Tryd.f3.params.toList.all (fun t => !Tryd.prog.wantsStandIn t) = true := by kernel_rfl
  have hm : t ∈ Tryd.f3.params.toList := by simpa using Array.mem_of_getElem? ht
  have := List.all_eq_true.1 hall t hm
  show Tryd.prog.wantsStandIn t = false
  simpa using this

theorem proved : Rows.FragSaysCardSaid :=
  Claim7.holds_tied_plain_at .later [] _ _ _ _ said (fun _ h => by cases h) (by kernel_rfl) (fun _ h => by cases h) fragSays_row_tie rfl ⟨rfl, rfl⟩ (by kernel_rfl) rfl plain (by kernel_rfl)

end Go.Proofs.YtaflpdagehocfaaDoor.fragSaysP
