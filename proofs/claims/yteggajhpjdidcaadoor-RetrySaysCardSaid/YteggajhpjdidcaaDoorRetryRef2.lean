/- Stations that meet and wait, the document's answer: Retry. No statement is proved here. -/
import Derived.Test.YteggajhpjdidcaaDoorRetryRef
namespace Go.Proofs.YteggajhpjdidcaaDoor.RetryDoc
open Go.ChangeShapes Go.WideShapes Go.ChangeAt Go.RowKit Go.Proofs.YteggajhpjdidcaaDoor.Kit Go.Proofs.YteggajhpjdidcaaDoor.App Go.Proofs.YteggajhpjdidcaaDoor.Err Go.Proofs.YteggajhpjdidcaaDoor.RetryMath
set_option linter.unusedVariables false
set_option maxRecDepth 20000
set_option maxHeartbeats 4000000

theorem DM.ends {w0 w : World} {g1 g2 n c mm : Nat} {pu : Option Addr} {cu : Nat} {v x : Value} {C f h : List Int} {out all : List (Nat × Nat)} (H : DM w0 w g1 g2 n (.slice pu c cu) v x (cast (out.map Prod.fst)) (cast (out.map Prod.snd)) C f h) (hl : out.length = c) (he : out = all) (hm : all.length = mm) : ∃ r2 cr2, c = mm ∧ v = .slice r2 mm cr2 ∧ Ints w pu cu (cast (all.map Prod.fst)) ∧ Ints w r2 cr2 (cast (all.map Prod.snd)) := by
  subst he
  subst hm
  obtain ⟨r, cr, e1, i1⟩ := H.t.o1.form
  obtain ⟨r2, cr2, e2, i2⟩ := H.t.o2.form
  rw [cast_len, List.length_map] at e2
  injection e1 with e3 e4 e5
  subst e3; subst e5
  exact ⟨r2, cr2, hl.symm, e2, i1, i2⟩
theorem Doc.start {n : Nat} {N0 : List Nat} (hN : ∀ x ∈ N0, x ≤ 1000) : Doc n 0 0 (fun _ => 0) (fun _ => 0) (N0.drop 0) [] (all n N0) := ⟨rfl, fun _ => Nat.zero_le _, fun _ => Nat.zero_le _, by rw [List.drop_zero]; exact hN, by rw [List.drop_zero, List.nil_append]; rfl⟩
theorem retry_good (n : Nat) (p : Option Addr) (cap k : Nat) (N0 : List Nat) (w : World) (hk : k = N0.length) (hi : Ints w p cap (cast N0)) (n1 : 1 ≤ n) (n5 : n ≤ 5) (hk2 : k ≤ 200) (hN : ∀ x ∈ N0, x ≤ 1000) (m : Nat) (hm : (all n N0).length = m) :
    Calls Tryd.prog 6 #[.int .i64 (n : Int), .slice p k cap] w fun e w' => (∃ r cr r2 cr2, e = .returned (.tuple #[.slice r m cr, .slice r2 m cr2]) ∧ Ints w' r cr (cast ((all n N0).map Prod.fst)) ∧ Ints w' r2 cr2 (cast ((all n N0).map Prod.snd))) ∧ Below w.heap.size w w' := by
  have hle := all_len (n := n) N0
  have HA0 := Lib.hid (show Doc n 0 0 (fun _ => 0) (fun _ => 0) (N0.drop 0) [] (all n N0) from Doc.start hN)
  obtain ⟨w1, mk1, ho1, hg1⟩ := made_ints w n (by omega)
  obtain ⟨w2, mk2, ho2, hg2⟩ := made_ints w1 n (by omega)
  have hb1 : Below w.heap.size w w1 := ⟨hg1.os, hg1.tape, hg1.output, hg1.size, fun k hk => hg1.block k hk (by simp)⟩
  have hb2 : Below w1.heap.size w1 w2 := ⟨hg2.os, hg2.tape, hg2.output, hg2.size, fun k hk => hg2.block k hk (by simp)⟩
  rw [tab_zero] at ho1 ho2
  have HM0 := Lib.hid (DM.start hb1 ho1 hb2 ho2)
  have HI := Lib.hid hi
  have HK := Lib.hid hk
  have HM := Lib.hid hm
  generalize all n N0 = ALL at HA0 HM hle ⊢
  have HLE := Lib.hid (show ALL.length ≤ 5 by omega)
  obtain ⟨g1, hgg1⟩ : ∃ g1, w.heap.size = g1 := ⟨_, rfl⟩
  obtain ⟨g2, hgg2⟩ : ∃ g2, w1.heap.size = g2 := ⟨_, rfl⟩
  rw [hgg1] at mk1
  rw [hgg2] at mk2
  rw [show DM w w2 w.heap.size w1.heap.size = DM w w2 g1 g2 by rw [hgg1, hgg2]] at HM0
  clear hk hi hm hle ho1 hg1 ho2 hg2 hb1 hb2 hN hgg1 hgg2
  go_enter Tryd.func6, Tryd.ntmps6
  go_wp2_with fail
  go_loopw [6, 7, 10, 11] (fun uv vv dv sv wr => ∃ (s c d : Nat) (pu : Option Addr) (cu : Nat) (v : Value) (a m : Nat → Nat) (out : List (Nat × Nat)), uv = .slice pu c cu ∧ v = vv ∧ dv = .int .i64 (d : Int) ∧ sv = .int .i64 (s : Int) ∧ s ≤ 1001 ∧ c ≤ n ∧ d ≤ k ∧ Hid (DM w wr g1 g2 n (.slice pu c cu) v (.slice none 0 0) (cast (out.map Prod.fst)) (cast (out.map Prod.snd)) [] (tab n m) (tab n a)) ∧ Hid (Doc n s c a m (N0.drop d) out ALL)) (fun _ _ _ sv _ => 1001 - (intOf sv).toNat)
  case atStart => exact ⟨0, 0, 0, none, 0, _, _, _, [], rfl, rfl, rfl, rfl, by omega, by omega, Nat.zero_le _, HM0, HA0⟩
  case round =>
    clear HA0 HM0 mk1 mk2
    obtain ⟨s, c, d, pu, cu, v, a, m2, out, rfl, rfl, rfl, rfl, hs, hcn, hdk, HME, HAH⟩ := hrel
    by_cases hs0 : s ≤ 1000
    · have t0 : decide ((s : Int) ≤ 1000) = true := decide_eq_true (by omega)
      by_cases hc0 : c < n
      · have t1 : decide ((c : Int) < (n : Int)) = true := decide_eq_true (by omega)
        have t1n : decide (c < n) = true := decide_eq_true hc0
        go_wp2_with fail
        go_loopw [12, 13] (fun xv iv wq => ∃ (i : Nat) (x : Value), i ≤ n ∧ x = xv ∧ iv = .int .i64 (i : Int) ∧ Hid (DM w wq g1 g2 n (.slice pu c cu) v x (cast (out.map Prod.fst)) (cast (out.map Prod.snd)) (cast (now i a s)) (tab n m2) (tab n a))) (fun _ iv _ => n - (intOf iv).toNat)
        case atStart => exact ⟨0, _, Nat.zero_le _, rfl, rfl, HME⟩
        case round =>
          clear HME
          obtain ⟨i, x, hin, rfl, rfl, HX⟩ := hrel
          by_cases hi : i < n
          · have v0 : decide ((i : Int) < (n : Int)) = true := decide_eq_true (by omega)
            have v1 : (i : Int) < (n : Int) := by omega
            have ca := own_cell HX.out.m2 i (by rw [tab_len]; exact hi)
            rw [tab_get hi] at ca
            have HNS := Lib.hid (now_succ (a := a) (s := s) i)
            have HLX := Lib.hid (show (now i a s).length ≤ 5 from by have : (now i a s).length ≤ i := now_len; omega)
            by_cases hs1 : a i = s
            · have v2 : (((a i : Nat) : Int) == (s : Int)) = true := by rw [beq_iff_eq]; omega
              have HN1 := Lib.hid (show cast (now (i + 1) a s) = cast (now i a s) ++ [(i : Int)] by rw [HNS.out, if_pos hs1, cast_app]; rfl)
              have HX2 := Lib.hid (HX.out.alloc (.cells #[.int .i64 (i : Int)] 3))
              generalize a i = y at ca v2
              clear hs1
              go_wp2_with (first
                | (at_builtin
                   refine wp_app rfl (.tmp 41) (.tmp 43) rfl w.heap.size x (cast (now i a s)) (some ⟨wr.heap.size, 0, none⟩) 1 1 [(i : Int)] rfl HX2.out.t.o3 rfl rfl (Ints.one wr (i : Int) (wf_small (by omega))) (by have := HLX.out; rw [cast_len]; simp; omega) HX2.out.t.bel.size ?_
                   intro x3 w3 ho3 hg3 hat3
                   rw [← HN1.out] at ho3
                   have HX3 := Lib.hid (HX2.out.app3 ho3 hg3 hat3)
                   clear ho3 hg3 hat3))
              go_roundw
              case rel => exact ⟨i + 1, x3, by omega, rfl, by first | rfl | go_num, HX3⟩
              case measure => simp [intOf]; omega
            · have v2 : (((a i : Nat) : Int) == (s : Int)) = false := by rw [beq_eq_false_iff_ne]; omega
              have HX3 := Lib.hid (show DM w wr g1 g2 n (.slice pu c cu) v x (cast (out.map Prod.fst)) (cast (out.map Prod.snd)) (cast (now (i + 1) a s)) (tab n m2) (tab n a) from by rw [HNS.out, if_neg hs1, List.append_nil]; exact HX.out)
              generalize a i = y at ca v2
              clear hs1
              go_wp2_with fail
              go_roundw
              case rel => exact ⟨i + 1, x, by omega, rfl, by first | rfl | go_num, HX3⟩
              case measure => simp [intOf]; omega
          · obtain rfl : i = n := by omega
            have v0 : decide ((i : Int) < (i : Int)) = false := decide_eq_false (by omega)
            by_cases hq1 : (now i a s).length = 1
            · obtain ⟨y, hy⟩ := List.length_eq_one_iff.1 hq1
              have HNO := Lib.hid hy
              have hyn : y < i := (now_mem.1 (show y ∈ now i a s by rw [hy]; simp)).1
              rw [hy] at HX
              obtain ⟨b, cs, hxe, _, _, hcs, _⟩ := own_pos HX.out.t.o3 (by simp [cast])
              have hxe : x = .slice (some ⟨b, 0, none⟩) 1 cs := hxe
              have hcs : 1 ≤ cs := by simpa [cast] using hcs
              subst hxe
              have cb : wr.cell? ⟨b, 0, none⟩ = some (.int .i64 (y : Int)) := own_cell HX.out.t.o3 0 (by simp [cast])
              have HOL := Lib.hid (show out.length ≤ 5 from by rw [HAH.out.len]; omega)
              have HX2 := Lib.hid (HX.out.alloc (.cells #[.int .i64 (y : Int)] 3))
              have HLO := Lib.hid HAH.out.len
              clear hy hq1
              go_wp2_with (first
                | (at_builtin
                   refine wp_app rfl (.tmp 48) (.tmp 52) rfl w.heap.size (.slice pu c cu) (cast (out.map Prod.fst)) (some ⟨wr.heap.size, 0, none⟩) 1 1 [(y : Int)] rfl HX2.out.t.o1 rfl rfl (Ints.one wr (y : Int) (wf_small (by omega))) (by have := HOL.out; simp [cast]; omega) HX2.out.t.bel.size ?_
                   intro u5 w5 ho5 hg5 hat5
                   have HM5 := Lib.hid (HX2.out.app1 ho5 hg5 hat5)
                   obtain ⟨pu5, cu5, hu5, _⟩ := ho5.form
                   rw [List.length_append, cast_len, List.length_map, HLO.out] at hu5
                   have hu5 : u5 = .slice pu5 (c + 1) cu5 := hu5
                   subst hu5
                   have HM6 := Lib.hid (HM5.out.alloc (.cells #[.int .i64 (s : Int)] 3))
                   clear ho5 hg5 hat5)
                | (at_builtin
                   refine wp_app rfl (.tmp 54) (.tmp 56) rfl w.heap.size v (cast (out.map Prod.snd)) (some ⟨w5.heap.size, 0, none⟩) 1 1 [(s : Int)] rfl HM6.out.t.o2 rfl rfl (Ints.one w5 (s : Int) (wf_small (by omega))) (by have := HOL.out; simp [cast]; omega) HM6.out.t.bel.size ?_
                   intro v7 w7 ho7 hg7 hat7
                   have HM7 := Lib.hid (HM6.out.app2 ho7 hg7 hat7)
                   clear ho7 hg7 hat7))
              have HA9 := Lib.hid (HAH.out.one hs0 hc0 HNO.out)
              go_roundw
              case rel => exact ⟨s + 1, c + 1, d, pu5, cu5, v7, a, m2, out ++ [(y, s)], by first | rfl | go_num, rfl, rfl, by first | rfl | go_num, by omega, by omega, hdk, Lib.hid (by rw [List.map_append, List.map_append, cast_app, cast_app]; exact HM7.out.free), HA9⟩
              case measure => simp [intOf]; omega
            · obtain ⟨q, hq⟩ : ∃ q, (now i a s).length = q := ⟨_, rfl⟩
              have hq5 : q ≤ 5 := by have : (now i a s).length ≤ i := now_len; omega
              obtain ⟨px, cx, hxe, _⟩ := HX.out.t.o3.form
              rw [cast_len, hq] at hxe
              subst hxe
              have t2 : ((q : Int) == 1) = false := by rw [beq_eq_false_iff_ne]; omega
              have t2n : (q == 1) = false := by rw [beq_eq_false_iff_ne]; omega
              have HQ := Lib.hid hq
              have HQ1 := Lib.hid hq1
              have HDL := Lib.hid (show (N0.drop d).length = k - d by rw [List.length_drop, ← HK.out])
              clear hq hq1
              by_cases hqk : k < d + q
              · have t3 : decide ((d : Int) + (q : Int) > (k : Int)) = true := decide_eq_true (by omega)
                have t3n : decide (k < d + q) = true := decide_eq_true hqk
                have HE := Lib.hid (HAH.out.stop hs0 hc0 HQ1.out (by rw [HQ.out, HDL.out]; omega))
                go_wp2_with fail
                go_ret2
                obtain ⟨r2, cr2, rfl, rfl, i1, i2⟩ := HX.out.ends HAH.out.len HE.out HM.out
                exact ⟨⟨pu, cu, r2, cr2, rfl, i1, i2⟩, HX.out.t.bel⟩
              · have t3 : decide ((d : Int) + (q : Int) > (k : Int)) = false := decide_eq_false (by omega)
                have t3n : decide (k < d + q) = false := decide_eq_false hqk
                have HX0 := Lib.hid (show DM w wr g1 g2 i (.slice pu c cu) v (.slice px q cx) (cast (out.map Prod.fst)) (cast (out.map Prod.snd)) (cast (now i a s)) (tab i (mat i s a m2 (N0.drop d) 0)) (tab i (aat i s a m2 (N0.drop d) 0)) from by
                  rw [(at_zero (n := i) (s := s) (a := a) (m := m2) (l := N0.drop d)).1, (at_zero (n := i) (s := s) (a := a) (m := m2) (l := N0.drop d)).2]; exact HX.out)
                clear HX
                go_wp2_with fail
                go_loopw [10, 14] (fun dv jv wq => ∃ j e : Nat, j ≤ q ∧ Hid (e = d + j) ∧ dv = .int .i64 (e : Int) ∧ jv = .int .i64 (j : Int) ∧ Hid (DM w wq g1 g2 i (.slice pu c cu) v (.slice px q cx) (cast (out.map Prod.fst)) (cast (out.map Prod.snd)) (cast (now i a s)) (tab i (mat i s a m2 (N0.drop d) j)) (tab i (aat i s a m2 (N0.drop d) j)))) (fun _ jv _ => q - (intOf jv).toNat)
                case atStart => exact ⟨0, d, Nat.zero_le _, Lib.hid rfl, rfl, rfl, HX0⟩
                case round =>
                  clear HX0
                  obtain ⟨j, e0, hj, HE0, rfl, rfl, HJ⟩ := hrel
                  have he0 := HE0.out
                  by_cases hjq : j < q
                  · have u1 : decide ((j : Int) < (q : Int)) = true := decide_eq_true (by omega)
                    have hjl : j < (now i a s).length := by rw [HQ.out]; omega
                    obtain ⟨y, hy⟩ : ∃ y, (now i a s)[j]? = some y := ⟨_, List.getElem?_eq_getElem hjl⟩
                    have hyn : y < i := (now_mem.1 (List.mem_of_getElem? hy)).1
                    obtain ⟨z, hz⟩ : ∃ z, (N0.drop d)[j]? = some z := ⟨_, List.getElem?_eq_getElem (by rw [HDL.out]; omega)⟩
                    have hz1 : z ≤ 1000 := HAH.out.small z (List.mem_of_getElem? hz)
                    have u2 : (y : Int) < (i : Int) := by omega
                    have u3 : (e0 : Int) < (k : Int) := by omega
                    have u3n : e0 < k := by omega
                    obtain ⟨b, cs, hxe, _, _, hcs, _⟩ := own_pos HJ.out.t.o3 (by rw [cast_len]; omega)
                    injection hxe with hxe1 hxe2 hxe3
                    subst hxe1
                    have cb := own_cell HJ.out.t.o3 j (by rw [cast_len]; omega)
                    rw [cast_get hy] at cb
                    have hiw := HI.out.below HJ.out.t.bel
                    obtain ⟨pb, po, rfl, _, hpc2⟩ := hiw.2.2.2 (by rw [cast_len, ← HK.out]; omega)
                    have cp := hpc2 e0 (by rw [cast_len, ← HK.out]; omega)
                    rw [List.getElem?_drop, ← he0] at hz
                    rw [cast_get hz] at cp
                    have c1 := own_cell HJ.out.m1 y (by rw [tab_len]; omega)
                    rw [tab_get hyn] at c1
                    have f1 := own_fz HJ.out.m1 y
                    obtain ⟨mm, hmm⟩ : ∃ mm, mat i s a m2 (N0.drop d) j y = mm := ⟨_, rfl⟩
                    have hml : mm ≤ 10000 := by
                      have := mat_le (n := i) (s := s) (a := a) (l := N0.drop d) HAH.out.met (show j ≤ (now i a s).length by omega) (by rw [HDL.out]; omega) y
                      omega
                    have hnx := at_next (m := m2) hy (show (N0.drop d)[j]? = some z by rw [List.getElem?_drop, ← he0]; exact hz)
                    rw [hmm] at c1 hnx
                    have hr0 := room_pos (mm + 1)
                    have hr2 := room_le (mm + 1)
                    have RM := Lib.hid (fun W => room_any (mm + 1) W (by omega))
                    obtain ⟨r, hr⟩ : ∃ r, room (mm + 1) = r := ⟨_, rfl⟩
                    rw [hr] at hnx hr0 hr2 RM
                    rw [show ((mm + 1 : Nat) : Int) = (mm : Int) + 1 from rfl] at RM
                    obtain ⟨t, ht⟩ : ∃ t, z % r = t := ⟨_, rfl⟩
                    have htr : t < r := by rw [← ht]; exact Nat.mod_lt _ hr0
                    rw [ht] at hnx
                    have u4 : (z : Int) % (r : Int) = (t : Int) := by rw [← ht]; simp
                    have u5 : (r : Int) ≠ 0 := by omega
                    have u6 : r ≠ 0 := by omega
                    have HJ2 := Lib.hid (HJ.out.set1 y ((mm + 1 : Nat) : Int) (wf_small (by omega)))
                    rw [tab_set hyn, ← hnx.2, show ((mm + 1 : Nat) : Int) = (mm : Int) + 1 from rfl] at HJ2
                    have HSE := Lib.hid (show ∀ W, DM w W g1 g2 i (.slice pu c cu) v (.slice (some ⟨b, 0, none⟩) q cx) (cast (out.map Prod.fst)) (cast (out.map Prod.snd)) (cast (now i a s)) (tab i (mat i s a m2 (N0.drop d) (j + 1))) (tab i (aat i s a m2 (N0.drop d) j)) → DM w (W.setCell ⟨g2, y, none⟩ (.int .i64 ((s : Int) + 1 + (t : Int)))) g1 g2 i (.slice pu c cu) v (.slice (some ⟨b, 0, none⟩) q cx) (cast (out.map Prod.fst)) (cast (out.map Prod.snd)) (cast (now i a s)) (tab i (mat i s a m2 (N0.drop d) (j + 1))) (tab i (aat i s a m2 (N0.drop d) (j + 1))) from fun W hW => by
                      have h1 := hW.set2 y ((s + 1 + t : Nat) : Int) (wf_small (by omega))
                      rw [tab_set hyn, ← hnx.1] at h1
                      exact h1)
                    have HC1 := Lib.hid (show ∀ W, DM w W g1 g2 i (.slice pu c cu) v (.slice (some ⟨b, 0, none⟩) q cx) (cast (out.map Prod.fst)) (cast (out.map Prod.snd)) (cast (now i a s)) (tab i (mat i s a m2 (N0.drop d) (j + 1))) (tab i (aat i s a m2 (N0.drop d) j)) → W.cell? ⟨g1, y, none⟩ = some (.int .i64 ((mm : Int) + 1)) ∧ (∃ u, W.cell? ⟨g2, y, none⟩ = some (.int .i64 u)) ∧ W.frozen? ⟨g2, y, none⟩ = false from fun W hW => by
                      have h1 := own_cell hW.m1 y (by rw [tab_len]; omega)
                      rw [tab_get hyn, hnx.2, put_same] at h1
                      exact ⟨h1, ⟨_, own_cell hW.m2 y (by rw [tab_len]; omega)⟩, own_fz hW.m2 y⟩)
                    have hq3 : q ≤ cx := by rw [cast_len, HQ.out] at hcs; omega
                    have cp2 := (HI.out.below HJ2.out.t.bel).2.2.2 (by rw [cast_len, ← HK.out]; omega)
                    obtain ⟨pb2, po2, hpe, _, cp2⟩ := cp2
                    injection hpe with hpe
                    injection hpe with hpe1 hpe2
                    subst hpe1; subst hpe2
                    have cp2 := cp2 e0 (by rw [cast_len, ← HK.out]; omega)
                    rw [cast_get hz] at cp2
                    clear hjl hy hz hcs hiw hpc2 hxe2 hxe3 hmm hnx hr ht hr0 cp hyn he0
                    go_wp2_with fail
                    generalize wr.setCell ⟨g1, y, none⟩ (.int .i64 ((mm : Int) + 1)) = w5 at HJ2 cp2 ⊢
                    obtain ⟨c5, ⟨u, c6⟩, f6⟩ := HC1.out _ HJ2.out
                    have cb5 := own_cell HJ2.out.t.o3 j (by have := HQ.out; rw [cast_len]; omega)
                    have HS9 := Lib.hid (HSE.out _ HJ2.out)
                    have HS8 := Lib.hid (HSE.out _ HJ2.out.drew)
                    have HE1 := Lib.hid (show e0 + 1 = d + (j + 1) from by have := HE0.out; omega)
                    clear HC1 HSE cb c1 f1
                    go_region_law (first
                      | (go_simp; go_at_call 10; refine (RM.out _).mono ?_; rintro e w8 ⟨rfl, rfl⟩))
                    all_goals
                      go_wp2_with fail
                      go_roundw
                      case rel => exact ⟨j + 1, e0 + 1, by omega, HE1, by first | rfl | go_num, by first | rfl | go_num, Lib.hid (by first | exact HS9.out | exact HS8.out | exact HS9.out.drew | exact HS8.out.drew)⟩
                      case measure => simp [intOf]; omega
                  · obtain rfl : j = q := by omega
                    have u1 : decide ((j : Int) < (j : Int)) = false := decide_eq_false (by omega)
                    have hqn : (now i a s).length ≤ (N0.drop d).length := by rw [HQ.out, HDL.out]; omega
                    have HA9 := Lib.hid (HAH.out.hit hs0 hc0 HQ1.out hqn n5)
                    rw [HQ.out, List.drop_drop, ← he0] at HA9
                    have he1 : e0 ≤ k := by omega
                    clear he0
                    have HM9 := Lib.hid HJ.out.free
                    clear hqn
                    go_wp2_with fail
                    go_roundw
                    case rel => exact ⟨s + 1, c, e0, pu, cu, v, _, _, out, rfl, rfl, rfl, by first | rfl | go_num, by omega, hcn, he1, HM9, HA9⟩
                    case measure => simp [intOf]; omega
      · obtain rfl : c = n := by omega
        have t1 : decide ((c : Int) < (c : Int)) = false := decide_eq_false (by omega)
        have HE := Lib.hid (HAH.out.gone rfl)
        go_wp2_with fail
        go_ret2
        obtain ⟨r2, cr2, rfl, rfl, i1, i2⟩ := HME.out.ends HAH.out.len HE.out HM.out
        exact ⟨⟨pu, cu, r2, cr2, rfl, i1, i2⟩, HME.out.t.bel⟩
    · have t0 : decide ((s : Int) ≤ 1000) = false := decide_eq_false (by omega)
      have HE := Lib.hid (HAH.out.last hs0)
      go_wp2_with fail
      go_ret2
      obtain ⟨r2, cr2, rfl, rfl, i1, i2⟩ := HME.out.ends HAH.out.len HE.out HM.out
      exact ⟨⟨pu, cu, r2, cr2, rfl, i1, i2⟩, HME.out.t.bel⟩
end Go.Proofs.YteggajhpjdidcaaDoor.RetryDoc
