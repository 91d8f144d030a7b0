/- Package nat, the document's answer: Drop. No statement is proved here. -/
import Derived.Test.YtlojehakifagbaaDoorNatRef2
import Derived.Test.YtlojehakifagbaaDoorCell4T
import Derived.Test.YtlojehakifagbaaDoorApt
namespace Go.Proofs.YtlojehakifagbaaDoor.Nat_
open Go.ChangeShapes Go.WideShapes Go.ChangeAt Go.RowKit Go.Proofs.YtlojehakifagbaaDoor.Kit Go.Proofs.YtlojehakifagbaaDoor.App Go.Proofs.YtlojehakifagbaaDoor.Cells Go.Proofs.YtlojehakifagbaaDoor.Err Go.Proofs.YtlojehakifagbaaDoor.MapG
set_option linter.unusedVariables false
set_option maxRecDepth 20000
set_option maxHeartbeats 2000000

/-- What the document's Drop answers. -/
def RdropP (low many : Nat) (pp pl : Option Addr) (h : Int → Option Plc) (q : Int) (w : World) (e : Ending) (w' : World) : Prop :=
  ∃ pp' n' cp' pl' cl' L', e = .returned (.tuple #[.agg #[.int .i64 (low : Int), .int .i64 (many : Int), .slice pp' n' cp', .slice pl' n' cl'], .int .i64 (noneC h q)]) ∧ RL (upd h q none) L' ∧ Dt w w' pp pl pp' n' cp' pl' cl' L' ∧ Below w.heap.size w w'
theorem rdrop_any (low many : Nat) (pp pl : Option Addr) (n cp cl : Nat) (L : List En) (h : Int → Option Plc) (q : Int) (w : World) (R : RL h L) (H : Tb low many h) (hn : n = L.length) (hi : Ints w pp cp (L.map Prod.fst)) (hj : CI lay w pl cl (L.map Prod.snd)) :
    Calls Tryd.prog 17 #[.agg #[.int .i64 (low : Int), .int .i64 (many : Int), .slice pp n cp, .slice pl n cl], .int .i64 q] w fun e w' => RdropP low many pp pl h q w e w' := by
  have hlen := hi.len_le
  rw [List.length_map, ← hn] at hlen
  have hl30 := R.few H
  obtain ⟨B, hB⟩ : ∃ B, w.heap.size = B := ⟨_, rfl⟩
  obtain ⟨w3, h3⟩ : ∃ w3, (w.alloc (.cells #[.int .i64 (low : Int), .int .i64 (many : Int), .slice pp n cp, .slice pl n cl] 45)).alloc (.cells #[.int .i64 0, .int .i64 0, .slice none 0 0, .slice none 0 0] 45) = w3 := ⟨_, rfl⟩
  have hx1 : Blk 45 w3 B [.int .i64 (low : Int), .int .i64 (many : Int), .slice pp n cp, .slice pl n cl] := by
    rw [← h3, ← hB]
    exact (Blk.new w 45 _).alloc _
  have hx3 : Blk 45 w3 (B + 1) [.int .i64 0, .int .i64 0, .slice none 0 0, .slice none 0 0] := by
    rw [← h3, ← hB]
    have := Blk.new (w.alloc (.cells #[.int .i64 (low : Int), .int .i64 (many : Int), .slice pp n cp, .slice pl n cl] 45)) 45 [.int .i64 0, .int .i64 0, .slice none 0 0, .slice none 0 0]
    rw [show (w.alloc (.cells #[.int .i64 (low : Int), .int .i64 (many : Int), .slice pp n cp, .slice pl n cl] 45)).heap.size = w.heap.size + 1 by simp] at this
    exact this
  have hb3 : Below w.heap.size w w3 := by rw [← h3]; exact balloc (balloc (brefl w) _) _
  have hs3 : w3.heap.size = B + 2 := by rw [← h3, ← hB]; simp
  have HX1 := Lib.hid hx1
  have HX3 := Lib.hid hx3
  have HB3 := Lib.hid hb3
  have HBB := Lib.hid hB
  have HS3 := Lib.hid hs3
  have HI := Lib.hid (fun W (hW : Below w.heap.size w W) => hi.below hW)
  have HJ := Lib.hid (fun W (hW : Below w.heap.size w W) => hj.below hW)
  have HN := Lib.hid hn
  have H3 := Lib.hid h3
  have HR := Lib.hid R
  have HT := Lib.hid H
  have CA := Lib.hid (rat_any (low : Int) (many : Int) pp pl n n cp cl L q w3 hn (hi.below hb3))
  have hixc := idx_cases L q
  clear hi hj hn hx1 hx3 hb3 hB h3 R H hs3
  rcases hixc with ⟨hix, hnx⟩ | ⟨j, y, hix, hjy⟩
  · rw [hix] at CA
    have t3 : decide ((-1 : Int) < 0) = true := rfl
    have HQ := Lib.hid (show h q = none from by
      cases e : h q with
      | none => rfl
      | some y => exact absurd rfl (hnx _ ((HR.out.mem _ y).1 e)))
    clear hix hnx
    go_enter Tryd.func17, Tryd.ntmps17
    go_wp2_with fail
    rw [H3.out, HBB.out]
    have c20 := HX1.out.cell 0 _ rfl
    have c21 := HX1.out.cell 1 _ rfl
    have c22 := HX1.out.cell 2 _ rfl
    have c23 := HX1.out.cell 3 _ rfl
    have k2 := HX1.out.fz 2
    have k3 := HX1.out.fz 3
    have e0 := HX3.out.cell 0 _ rfl
    have e1 := HX3.out.cell 1 _ rfl
    have e2 := HX3.out.cell 2 _ rfl
    have e3 := HX3.out.cell 3 _ rfl
    have f0 := HX3.out.fz 0
    have f1 := HX3.out.fz 1
    have f2 := HX3.out.fz 2
    have f3 := HX3.out.fz 3
    refine CA.out.mono ?_; rintro e w4 ⟨rfl, hb4⟩
    have HX1 := Lib.hid (HX1.out.below hb4)
    have HX3 := Lib.hid (HX3.out.below hb4)
    have HBE := Lib.hid (bcall HB3.out hb4)
    have HW := Lib.hid (show B + 2 ≤ w4.heap.size by have h1 := HS3.out; have h2 := hb4.size; omega)
    clear hb4 CA HB3
    clear c20 c21 c22 c23 k2 k3 e0 e1 e2 e3 f0 f1 f2 f3
    have c20 := HX1.out.cell 0 _ rfl
    have c21 := HX1.out.cell 1 _ rfl
    have c22 := HX1.out.cell 2 _ rfl
    have c23 := HX1.out.cell 3 _ rfl
    have k2 := HX1.out.fz 2
    have k3 := HX1.out.fz 3
    have e0 := HX3.out.cell 0 _ rfl
    have e1 := HX3.out.cell 1 _ rfl
    have e2 := HX3.out.cell 2 _ rfl
    have e3 := HX3.out.cell 3 _ rfl
    have f0 := HX3.out.fz 0
    have f1 := HX3.out.fz 1
    have f2 := HX3.out.fz 2
    have f3 := HX3.out.fz 3
    go_wp2_with fail
    have HE := Lib.hid ((((HX3.out.set 0 (.int .i64 (low : Int))).set 1 (.int .i64 (many : Int))).set 2 (.slice pp n cp)).set 3 (.slice pl n cl))
    have hBw : w.heap.size = B := HBB.out
    have hbe := below_set (below_set (below_set (below_set HBE.out (B + 1) 0 (.int .i64 (low : Int)) (by omega)) (B + 1) 1 (.int .i64 (many : Int)) (by omega)) (B + 1) 2 (.slice pp n cp) (by omega)) (B + 1) 3 (.slice pl n cl) (by omega)
    have hq := HQ.out
    exact bodyPost_ret (results_four rfl Tryd.isAgg45 Tryd.sizeOf45 _ _ (B + 1) rfl _ _ _ _ (HE.out.cell 0 _ rfl) (HE.out.cell 1 _ rfl) (HE.out.cell 2 _ rfl) (HE.out.cell 3 _ rfl)) rfl
      ⟨pp, n, cp, pl, cl, L, by unfold noneC; rw [hq]; rfl, by rw [upd_none hq]; exact HR.out, ⟨HN.out, HI.out _ hbe, HJ.out _ hbe, fun a e => .inl e, fun a e => .inl e⟩, hbe⟩
  · rw [hix] at CA
    have t3 : decide ((j : Int) < 0) = false := decide_eq_false (by omega)
    have HQ := Lib.hid ((HR.out.mem _ y).2 (List.mem_of_getElem? hjy))
    have HJY := Lib.hid hjy
    clear hix hjy
    go_enter Tryd.func17, Tryd.ntmps17
    go_wp2_with fail
    rw [H3.out, HBB.out]
    have c20 := HX1.out.cell 0 _ rfl
    have c21 := HX1.out.cell 1 _ rfl
    have c22 := HX1.out.cell 2 _ rfl
    have c23 := HX1.out.cell 3 _ rfl
    have k2 := HX1.out.fz 2
    have k3 := HX1.out.fz 3
    have e0 := HX3.out.cell 0 _ rfl
    have e1 := HX3.out.cell 1 _ rfl
    have e2 := HX3.out.cell 2 _ rfl
    have e3 := HX3.out.cell 3 _ rfl
    have f0 := HX3.out.fz 0
    have f1 := HX3.out.fz 1
    have f2 := HX3.out.fz 2
    have f3 := HX3.out.fz 3
    refine CA.out.mono ?_; rintro e w4 ⟨rfl, hb4⟩
    have HX1 := Lib.hid (HX1.out.below hb4)
    have HX3 := Lib.hid (HX3.out.below hb4)
    have HBE := Lib.hid (bcall HB3.out hb4)
    have HW := Lib.hid (show B + 2 ≤ w4.heap.size by have h1 := HS3.out; have h2 := hb4.size; omega)
    clear hb4 CA HB3
    clear c20 c21 c22 c23 k2 k3 e0 e1 e2 e3 f0 f1 f2 f3
    have c20 := HX1.out.cell 0 _ rfl
    have c21 := HX1.out.cell 1 _ rfl
    have c22 := HX1.out.cell 2 _ rfl
    have c23 := HX1.out.cell 3 _ rfl
    have k2 := HX1.out.fz 2
    have k3 := HX1.out.fz 3
    have e0 := HX3.out.cell 0 _ rfl
    have e1 := HX3.out.cell 1 _ rfl
    have e2 := HX3.out.cell 2 _ rfl
    have e3 := HX3.out.cell 3 _ rfl
    have f0 := HX3.out.fz 0
    have f1 := HX3.out.fz 1
    have f2 := HX3.out.fz 2
    have f3 := HX3.out.fz 3
    go_wp2_with fail
    clear c20 c21 c22 c23 k2 k3 e0 e1 e2 e3 f0 f1 f2 f3
    have HX1w := HX1
    go_loopw [7, 8, 9] (fun vp vl iv wr => ∃ k : Nat, k ≤ n ∧ iv = .int .i64 (k : Int) ∧ Hid (Below w4.heap.size w4 wr) ∧ Hid (OwnI wr w4.heap.size vp ((bt L j k).map Prod.fst)) ∧ Hid (OC lay 24 wr w4.heap.size vl ((bt L j k).map Prod.snd)) ∧ Hid (Apt vp vl)) (fun _ _ i _ => n - vN1 i)
    case atStart => exact ⟨0, Nat.zero_le _, rfl, Lib.hid (brefl w4), Lib.hid (by unfold bt; simp; exact OwnI.nil _ _), Lib.hid (by unfold bt; simp; exact OC.nil _ _ _ _), Lib.hid (Apt.nil _)⟩
    case round =>
      obtain ⟨k, hk, rfl, HWR, HOP, HOL, HAP⟩ := hrel
      have HBR := Lib.hid (bcall HBE.out HWR.out)
      have HX1 := Lib.hid (HX1.out.below HWR.out)
      have HX3 := Lib.hid (HX3.out.below HWR.out)
      have c20 := HX1.out.cell 0 _ rfl
      have c21 := HX1.out.cell 1 _ rfl
      have c22 := HX1.out.cell 2 _ rfl
      have c23 := HX1.out.cell 3 _ rfl
      have k2 := HX1.out.fz 2
      have k3 := HX1.out.fz 3
      have e0 := HX3.out.cell 0 _ rfl
      have e1 := HX3.out.cell 1 _ rfl
      have e2 := HX3.out.cell 2 _ rfl
      have e3 := HX3.out.cell 3 _ rfl
      have f0 := HX3.out.fz 0
      have f1 := HX3.out.fz 1
      have f2 := HX3.out.fz 2
      have f3 := HX3.out.fz 3
      by_cases hlt : k < n
      · have u1 : decide ((k : Int) < (n : Int)) = true := decide_eq_true (by omega)
        have hkl : k < L.length := by rw [← HN.out]; exact hlt
        obtain ⟨x, hx⟩ : ∃ x, L[k]? = some x := ⟨_, List.getElem?_eq_getElem hkl⟩
        by_cases hkj : (k : Int) = (j : Int)
        · have u2 : ((k : Int) != (j : Int)) = false := by rw [bne_eq_false_iff_eq]; exact hkj
          have HBT := Lib.hid (show bt L j (k + 1) = bt L j k by
            obtain rfl : k = j := by omega
            exact bt_not hx)
          clear hkj hx
          go_wp2_with fail
          go_roundw
          case rel => exact ⟨k + 1, by omega, by first | rfl | go_num, HWR, by rw [HBT.out]; exact HOP, by rw [HBT.out]; exact HOL, HAP⟩
          case measure => simp [vN1]; omega
        · have u2 : ((k : Int) != (j : Int)) = true := by rw [bne_iff_ne]; exact hkj
          have HBT := Lib.hid (bt_yes hx (show k ≠ j by omega))
          have HLP := Lib.hid (show (bt L j k).length ≤ 30 from Nat.le_trans (bt_len j k) (by omega))
          obtain ⟨b0, off, rfl, hb0, hc⟩ := (HI.out wr HBR.out).2.2.2 (by rw [List.length_map]; omega)
          have hc1 := hc k (by rw [List.length_map]; exact hkl)
          rw [fst_at hx] at hc1
          have hxw := ((HR.out.wf HT.out) x (List.mem_of_getElem? hx)).1
          obtain ⟨b2, o2, rfl, hcp⟩ := places_both (HJ.out w (brefl w)) (by rw [List.length_map]; omega)
          have HCP := Lib.hid (fun W hW => hcp W hW k x.2 (snd_at hx))
          obtain ⟨x1, x2, x3⟩ := x
          simp only at hc1 hxw
          have hm1 : (bt L j k).map Prod.fst ++ [x1] = (bt L j (k + 1)).map Prod.fst := by rw [HBT.out, List.map_append]; rfl
          have hm2 : (bt L j k).map Prod.snd ++ [(⟨x2, x3⟩ : Plc)] = (bt L j (k + 1)).map Prod.snd := by rw [HBT.out, List.map_append]; rfl
          have HM1 := Lib.hid hm1
          have HM2 := Lib.hid hm2
          have HLM1 : Hid (((bt L j k).map Prod.fst).length ≤ 30) := Lib.hid (by rw [List.length_map]; exact HLP.out)
          have HLM2 : Hid (((bt L j k).map Prod.snd).length ≤ 30) := Lib.hid (by rw [List.length_map]; exact HLP.out)
          have hkz : (k : Int) < (n : Int) := by omega
          clear hc hkl hx hcp hkj hm1 hm2 HBT HLP
          generalize (bt L j k).map Prod.fst = lp at HOP HM1 HLM1
          generalize (bt L j k).map Prod.snd = ll at HOL HM2 HLM2
          go_wp2_with (first
            | (at_builtin
               refine wp_app rfl (.tmp 26) (.tmp 32) rfl w4.heap.size _ lp (some ⟨wr.heap.size, 0, none⟩) 1 1 [x1] rfl (HOP.out.alloc _) rfl rfl (Ints.one wr x1 hxw) (by have := HLM1.out; simp; omega) (Nat.le_trans HWR.out.size (by simp)) ?_
               intro v5 w5 hown5 hg5 hat5
               have hb5 : Below w4.heap.size w4 w5 := below_one HWR.out HWR.out.size _ HOP.out hg5
               have HB5 := Lib.hid hb5
               have hx15 := HX1w.out.below hb5
               have c53 := hx15.cell 3 _ rfl
               have hcc := HCP.out w5 (bcall HBE.out hb5)
               have c54 := hcc.1
               have c55 := hcc.2
               have HOL5 := Lib.hid ((HOL.out.alloc (.cells #[.int .i64 x1] 3)).more hg5 HAP.out.symm.ne)
               have HAP5 := Lib.hid (Apt.grow HAP.out.symm (fun i hi => (HOL.out.lt i hi).2) (by simp) hat5).symm
               have HOP5 := Lib.hid hown5
               clear hown5 hg5 hat5 hb5 hx15 hcc)
            | (at_builtin
               refine wp_appC ty rfl (.tmp 34) (.tmp 40) rfl w4.heap.size _ ll (some ⟨w5.heap.size, 0, none⟩) 1 1 [⟨x2, x3⟩] rfl (HOL5.out.alloc _) rfl rfl (CI.one lay w5 ⟨x2, x3⟩ 24) (by have := HLM2.out; simp; omega) (Nat.le_trans HB5.out.size (by simp)) ?_
               intro v6 w6 hown6 hg6 hat6
               have HB6 := Lib.hid (below_oneC HB5.out HB5.out.size _ HOL5.out hg6)
               have HOP6 := Lib.hid ((HOP5.out.alloc (.cells #[.int .i64 x2, .int .i64 x3] 24)).more hg6 HAP5.out.ne)
               have HAP6 := Lib.hid (Apt.grow HAP5.out (fun i hi => (HOP5.out.lt i hi).2) (by simp) hat6)
               have HOL6 := Lib.hid hown6
               clear hown6 hg6 hat6))
          go_roundw
          case rel => exact ⟨k + 1, by omega, by first | rfl | go_num, HB6, by rw [← HM1.out]; exact HOP6, by rw [← HM2.out]; exact HOL6, HAP6⟩
          case measure => simp [vN1]; omega
      · obtain rfl : k = n := by omega
        have u1 : decide ((k : Int) < (k : Int)) = false := decide_eq_false (by omega)
        have hall : bt L j k = L.eraseIdx j := by rw [HN.out]; exact bt_all j
        rw [hall] at HOP HOL
        have HRD := Lib.hid (HR.out.del HJY.out)
        generalize L.eraseIdx j = L2 at HOP HOL HRD
        obtain ⟨p5, c5, e5, _⟩ := own_read HOP.out
        obtain ⟨p6, c6, e6, _⟩ := oc_read HOL.out
        have HLL : Hid (L2.length = (L2.map Prod.fst).length ∧ L2.length = (L2.map Prod.snd).length) := Lib.hid ⟨by simp, by simp⟩
        rw [← HLL.out.1] at e5
        rw [← HLL.out.2] at e6
        have HNN : Hid (∃ n2, L2.length = n2) := Lib.hid ⟨_, rfl⟩
        obtain ⟨n2, hn2⟩ := HNN.out
        rw [hn2] at e5 e6
        subst e5; subst e6
        have HN2 := Lib.hid hn2
        clear hn2 hall HNN HAP
        go_wp2_with fail
        have hBw : w.heap.size = B := HBB.out
        have hW := HW.out
        have hbe := below_set (below_set (below_set (below_set (below_set (below_set HBR.out B 2 (.slice p5 n2 c5) (by omega)) B 3 (.slice p6 n2 c6) (by omega)) (B + 1) 0 (.int .i64 (low : Int)) (by omega)) (B + 1) 1 (.int .i64 (many : Int)) (by omega)) (B + 1) 2 (.slice p5 n2 c5) (by omega)) (B + 1) 3 (.slice p6 n2 c6) (by omega)
        have HE := Lib.hid ((((((HX3.out.other B 2 (.slice p5 n2 c5) (by omega)).other B 3 (.slice p6 n2 c6) (by omega)).set 0 (.int .i64 (low : Int))).set 1 (.int .i64 (many : Int))).set 2 (.slice p5 n2 c5)).set 3 (.slice p6 n2 c6))
        have hoc := oc_set (oc_set (oc_set (oc_set (oc_set (oc_set HOL.out B 2 (.slice p5 n2 c5) (by omega)) B 3 (.slice p6 n2 c6) (by omega)) (B + 1) 0 (.int .i64 (low : Int)) (by omega)) (B + 1) 1 (.int .i64 (many : Int)) (by omega)) (B + 1) 2 (.slice p5 n2 c5) (by omega)) (B + 1) 3 (.slice p6 n2 c6) (by omega)
        have how := ow_set (ow_set (ow_set (ow_set (ow_set (ow_set HOP.out B 2 (.slice p5 n2 c5) (by omega)) B 3 (.slice p6 n2 c6) (by omega)) (B + 1) 0 (.int .i64 (low : Int)) (by omega)) (B + 1) 1 (.int .i64 (many : Int)) (by omega)) (B + 1) 2 (.slice p5 n2 c5) (by omega)) (B + 1) 3 (.slice p6 n2 c6) (by omega)
        obtain ⟨q1, d1, j1, hI1, hA1⟩ := oc_read hoc
        injection j1 with j1 j2 j3
        subst j1; subst j3
        obtain ⟨q2, d2, j4, hI2, hA2⟩ := own_read how
        injection j4 with j4 j5 j6
        subst j4; subst j6
        have hq := HQ.out
        exact bodyPost_ret (results_four rfl Tryd.isAgg45 Tryd.sizeOf45 _ _ (B + 1) rfl _ _ _ _ (HE.out.cell 0 _ rfl) (HE.out.cell 1 _ rfl) (HE.out.cell 2 _ rfl) (HE.out.cell 3 _ rfl)) rfl
          ⟨p5, n2, c5, p6, c6, L2, by unfold noneC; rw [hq]; rfl, HRD.out, ⟨HN2.out.symm, hI2, hI1, fun x e => .inr ⟨by have := (hA2 x e).1; omega, (hA2 x e).2.1⟩, fun x e => .inr ⟨by have := (hA1 x e).1; omega, (hA1 x e).2⟩⟩, hbe⟩
end Go.Proofs.YtlojehakifagbaaDoor.Nat_
