/- Fragments in any order and with duplicates are put together to the text: the law returns true for every input. No condition. -/
import Derived.Test.YtaflpdagehocfaaFragCut
namespace Go.Proofs.Ytaflpdagehocfaa.fragJoinP
open Go.ChangeShapes Go.WideShapes Go.ChangeAt Go.RowKit
open Go.Proofs.Ytaflpdagehocfaa.Kit Go.Proofs.Ytaflpdagehocfaa.App Go.Proofs.Ytaflpdagehocfaa.Cells Go.Proofs.Ytaflpdagehocfaa.Part
set_option linter.unusedVariables false
set_option maxRecDepth 20000

abbrev Law (s : ByteArray) (a : Int) (p : Option Addr) (cap : Nat) (o : List Int) (w : World) : Prop := Calls Try.prog 3 #[.string s, .int .i64 a, .slice p o.length cap] w fun e w' => e = .returned (.bool true) ∧ Below w.heap.size w w'
set_option maxHeartbeats 1000000 in
theorem law_bad (s : ByteArray) (a : Int) (p : Option Addr) (cap : Nat) (o : List Int) (w : World) (m : Int) (hm : cutBad s a = m) (h0 : m ≠ 0) : Law s a p cap o w := by
  have FA := Lib.hid (fact_any w)
  have CU := Lib.hid (fun W => fcut_bad s a W m hm h0)
  clear hm
  unfold Law
  go_enter Try.func3, Try.ntmps3
  go_wp2_with fail
  refine FA.out.mono ?_; rintro e w1 ⟨rfl, hb1⟩
  go_wp2_with fail
  refine (CU.out _).mono ?_; rintro e w2 ⟨rfl, rfl⟩
  clear CU FA
  go_wp2_with fail
  go_ret
  exact ⟨rfl, hb1⟩
set_option maxHeartbeats 4000000 in
theorem law_good (s : ByteArray) (n : Nat) (po : Option Addr) (capo : Nat) (o : List Int) (w : World) (ho : Ints w po capo o) (hs : s.size ≤ 200) (hn : 0 < n) (hn2 : n ≤ 200) (h40 : more s n < 40) : Law s n po capo o w := by
  have FA := Lib.hid (fact_any w)
  have CU := Lib.hid (fun W => fcut_some s n W hs hn hn2 h40)
  have hwh : Hid (∀ m : List Prt, (∀ x ∈ m, x ∈ parts s n) → (∀ x ∈ parts s n, x ∈ m) → m.length ≤ 40 → joinM m = .ok (text s)) := fun m h1 h2 h3 => join_whole (whole_parts s n m hn hs h1 h2) h3
  have hfit : Hid (∀ x ∈ parts s n, Fits x) := fun x hx => (fits_parts s n hn hs x hx).1
  obtain ⟨mm, hmm⟩ : ∃ mm, more s n = mm := ⟨_, rfl⟩
  have hLl : (parts s n).length = mm + 1 := by rw [← hmm, parts_len]
  rw [hmm] at h40
  obtain ⟨L, hL⟩ : ∃ L, parts s n = L := ⟨_, rfl⟩
  rw [hL] at CU hwh hfit hLl
  have HLL := Lib.hid hLl
  have IN := Lib.hid (fun (z : Int) (R : Bool) (h : R = (decide (0 ≤ z) && decide (z ≤ (mm : Int)))) W => in_any z 0 (mm : Int) W R h)
  have holen := ho.len_le
  clear hmm hL hLl
  unfold Law
  go_enter Try.func3, Try.ntmps3
  go_wp2_with fail
  refine FA.out.mono ?_; rintro e w1 ⟨rfl, hb1⟩
  go_wp2_with fail
  refine (CU.out _).mono ?_; rintro e w2 ⟨v, rfl, hown, hb2⟩
  have hB2 := bcall hb1 hb2
  have hB2s := hB2.size
  obtain ⟨p, cp, rfl, hCI⟩ := hown.form
  obtain ⟨b, off, rfl, hbl, hcell0⟩ := hCI.2.2 (by rw [HLL.out]; omega)
  have HC := Lib.hid hcell0
  rw [HLL.out]
  clear CU FA hown hcell0
  have t40 : decide ((mm : Int) + 1 > 40) = false := decide_eq_false (by omega)
  have t41 : ((mm : Int) + 1 == 0) = false := by rw [beq_eq_false_iff_ne]; omega
  go_wp2_with fail
  go_loopw [10, 11] (fun mv iv wr => ∃ (i : Nat) (M : List Prt), i ≤ o.length ∧ iv = .int .i64 i ∧ OC lay 31 wr w2.heap.size mv M ∧ Below w2.heap.size w2 wr ∧ M.length + (mm + 1) ≤ 40 ∧ Hid (∀ x ∈ M, x ∈ L)) (fun _ i _ => o.length - (intOf i).toNat)
  case atStart => exact ⟨0, [], Nat.zero_le _, rfl, OC.nil _ _ _ _, brefl _, by simp; omega, fun x hx => by simp at hx⟩
  case round =>
    obtain ⟨i, M, hi, rfl, hown, hB, hMl, hM⟩ := hrel
    obtain ⟨pm, cm, rfl, hCM⟩ := hown.form
    have hBs := hB.size
    by_cases hlt : i < o.length ∧ M.length + (mm + 1) < 40
    · obtain ⟨hlt1, hlt2⟩ := hlt
      have u1 : decide ((i : Int) < (o.length : Int)) = true := decide_eq_true (by omega)
      have u2 : decide ((M.length : Int) + ((mm : Int) + 1) < 40) = true := decide_eq_true (by omega)
      obtain ⟨bo, oo, rfl, hbo, hco⟩ := ho.2.2.2 (by omega)
      obtain ⟨z, hz⟩ : ∃ z, o[i]?.getD 0 = z := ⟨_, rfl⟩
      have hzw := bounds_int (ho.2.2.1 i)
      have hzc := (hB.cell (p := ⟨bo, oo + i, none⟩) (Nat.lt_of_lt_of_le hbo hB2s)).trans ((hB2.cell (p := ⟨bo, oo + i, none⟩) hbo).trans (hco i hlt1))
      rw [hz] at hzc hzw
      clear hz hco
      by_cases hin : 0 ≤ z ∧ z ≤ (mm : Int)
      · obtain ⟨zn, rfl⟩ := Int.eq_ofNat_of_zero_le hin.1
        have hzn : zn ≤ mm := by have := hin.2; omega
        have IY := Lib.hid (fun W => IN.out (zn : Int) true (by simp; omega) W)
        obtain ⟨⟨a, bb, ss⟩, hx⟩ : ∃ x, L[zn]? = some x := ⟨_, List.getElem?_eq_getElem (by rw [HLL.out]; omega)⟩
        have hx0 : wr.cell? ⟨b, off + zn * 3, none⟩ = some (.int .i64 a) := (hB.cell (p := ⟨b, off + zn * 3, none⟩) hbl).trans (HC.out zn _ hx 0 _ rfl)
        have hx1 : wr.cell? ⟨b, off + zn * 3 + 1, none⟩ = some (.bool bb) := (hB.cell (p := ⟨b, off + zn * 3 + 1, none⟩) hbl).trans (HC.out zn _ hx 1 _ rfl)
        have hx2 : wr.cell? ⟨b, off + zn * 3 + 2, none⟩ = some (.string ss) := (hB.cell (p := ⟨b, off + zn * 3 + 2, none⟩) hbl).trans (HC.out zn _ hx 2 _ rfl)
        have HM2 : Hid (∀ x ∈ M ++ [(⟨a, bb, ss⟩ : Prt)], x ∈ L) := fun x hx' => by
          rcases List.mem_append.1 hx' with h | h
          · exact hM.out x h
          · rw [List.mem_singleton.1 h]; exact List.mem_of_getElem? hx
        clear hx hin hzw hCM
        go_wp2_with fail
        refine (IY.out _).mono ?_; rintro e w5 ⟨rfl, rfl⟩
        go_wp2_with (at_builtin
                     refine wp_appC ty rfl (.tmp 58) (.tmp 66) rfl w2.heap.size _ M (some ⟨w5.heap.size, 0, none⟩) 1 1 [⟨a, bb, ss⟩] rfl (hown.alloc _) rfl rfl (CI.one lay w5 _ _) (by rw [List.length_singleton]; omega) (Nat.le_trans hBs (by simp)) ?_
                     intro v6 w6 hown6 hg6 hat6
                     have hB6 : Below w2.heap.size w2 w6 := below_oneC hB hBs _ hown hg6
                     clear hat6 hg6)
        go_roundw
        case rel => exact ⟨i + 1, M ++ [⟨a, bb, ss⟩], by omega, by first | rfl | go_num, hown6, hB6, by rw [List.length_append, List.length_singleton]; omega, HM2⟩
        case measure => simp [intOf]; omega
      · have IY := Lib.hid (fun W => IN.out z false (by
          cases h1 : (decide ((0 : Int) ≤ z) && decide (z ≤ (mm : Int))) with
          | false => rfl
          | true => simp at h1; exact absurd ⟨h1.1, by omega⟩ hin) W)
        clear hin hzw hCM
        go_wp2_with fail
        refine (IY.out _).mono ?_; rintro e w5 ⟨rfl, rfl⟩
        go_wp2_with fail
        go_roundw
        case rel => exact ⟨i + 1, M, by omega, by first | rfl | go_num, hown, hB, hMl, hM⟩
        case measure => simp [intOf]; omega
    · by_cases h1 : i < o.length
      · have h2 : ¬ (M.length + (mm + 1) < 40) := fun h => hlt ⟨h1, h⟩
        have u1 : decide ((i : Int) < (o.length : Int)) = true := decide_eq_true (by omega)
        have u2 : decide ((M.length : Int) + ((mm : Int) + 1) < 40) = false := decide_eq_false (by omega)
        have u2' : ¬ ((M.length : Int) + ((mm : Int) + 1) < 40) := by omega
        go_wp2_with fail
        go_loopw [10, 12] (fun mv iv wi => ∃ (j : Nat) (Q : List Prt), j ≤ mm + 1 ∧ iv = .int .i64 ((j : Int) - 1) ∧ OC lay 31 wi w2.heap.size mv Q ∧ Below w2.heap.size w2 wi ∧ Q.length + j ≤ 40 ∧ Hid ((∀ x ∈ Q, x ∈ L) ∧ ∀ x ∈ L.drop j, x ∈ Q)) (fun _ i _ => (intOf i + 1).toNat)
        case atStart => exact ⟨mm + 1, M, Nat.le_refl _, by first | rfl | go_num | (congr 1; omega), hown, hB, hMl, hM.out, fun x hx => by rw [List.drop_eq_nil_of_le (by rw [HLL.out]; exact Nat.le_refl _)] at hx; simp at hx⟩
        case round =>
          clear hown hB hM hMl hBs hCM
          obtain ⟨j, Q, hj, rfl, hown, hB, hQl, hQ⟩ := hrel
          obtain ⟨pq, cq, rfl, hCQ⟩ := hown.form
          have hBs := hB.size
          by_cases hj0 : 0 < j
          · obtain ⟨jn, rfl⟩ : ∃ jn, j = jn + 1 := ⟨j - 1, by omega⟩
            have u3 : decide (((jn : Int) + 1 - 1) ≥ 0) = true := decide_eq_true (by omega)
            have u4 : decide ((jn : Int) ≥ 0) = true := decide_eq_true (by omega)
            obtain ⟨⟨a, bb, ss⟩, hx⟩ : ∃ x, L[jn]? = some x := ⟨_, List.getElem?_eq_getElem (by rw [HLL.out]; omega)⟩
            have hx0 : wr.cell? ⟨b, off + jn * 3, none⟩ = some (.int .i64 a) := (hB.cell (p := ⟨b, off + jn * 3, none⟩) hbl).trans (HC.out jn _ hx 0 _ rfl)
            have hx1 : wr.cell? ⟨b, off + jn * 3 + 1, none⟩ = some (.bool bb) := (hB.cell (p := ⟨b, off + jn * 3 + 1, none⟩) hbl).trans (HC.out jn _ hx 1 _ rfl)
            have hx2 : wr.cell? ⟨b, off + jn * 3 + 2, none⟩ = some (.string ss) := (hB.cell (p := ⟨b, off + jn * 3 + 2, none⟩) hbl).trans (HC.out jn _ hx 2 _ rfl)
            have HQ2 : Hid ((∀ x ∈ Q ++ [(⟨a, bb, ss⟩ : Prt)], x ∈ L) ∧ ∀ x ∈ L.drop jn, x ∈ Q ++ [(⟨a, bb, ss⟩ : Prt)]) := by
              refine ⟨fun x hx' => ?_, fun x hx' => ?_⟩
              · rcases List.mem_append.1 hx' with h | h
                · exact hQ.out.1 x h
                · rw [List.mem_singleton.1 h]; exact List.mem_of_getElem? hx
              · have hjl : jn < L.length := by rw [HLL.out]; omega
                rw [List.drop_eq_getElem_cons hjl] at hx'
                rw [List.getElem?_eq_getElem hjl] at hx
                rw [Option.some.inj hx] at hx'
                rcases List.mem_cons.1 hx' with h | h
                · rw [h]; simp
                · exact List.mem_append.2 (.inl (hQ.out.2 x h))
            clear hx hCQ
            go_wp2_with (at_builtin
                         refine wp_appC ty rfl (.tmp 75) (.tmp 80) rfl w2.heap.size _ Q (some ⟨wr.heap.size, 0, none⟩) 1 1 [⟨a, bb, ss⟩] rfl (hown.alloc _) rfl rfl (CI.one lay wr _ _) (by rw [List.length_singleton]; omega) (Nat.le_trans hBs (by simp)) ?_
                         intro v6 w6 hown6 hg6 hat6
                         have hB6 : Below w2.heap.size w2 w6 := below_oneC hB hBs _ hown hg6
                         clear hat6 hg6)
            go_roundw
            case rel => exact ⟨jn, Q ++ [⟨a, bb, ss⟩], by omega, by first | rfl | go_num | (congr 1; omega), hown6, hB6, by rw [List.length_append, List.length_singleton]; omega, HQ2⟩
            case measure => simp [intOf]
          · obtain rfl : j = 0 := by omega
            have u3 : decide (((0 : Nat) : Int) - 1 ≥ 0) = false := decide_eq_false (by omega)
            have hjq := hwh.out Q hQ.out.1 (fun x hx => hQ.out.2 x (by rw [List.drop_zero]; exact hx)) (by omega)
            have JO := Lib.hid (fun W (h : CI lay W pq cq Q) => fjoin_any pq cq Q.length Q W rfl h (fun x hx => hfit.out x (hQ.out.1 x hx)) s .nilIface (by rw [hjq]; exact ⟨rfl, rfl⟩))
            have u5 : (s.toList == s.toList) = true := by simp
            have hQ40 : Q.length ≤ 40 := by omega
            clear hjq
            go_wp2_with fail
            refine (JO.out _ hCQ).mono ?_; rintro e w8 ⟨rfl, hb8⟩
            have hB8 : Below w.heap.size w w8 := bcall (hB2.trans (hB.mono hB2s)) hb8
            clear JO hCQ hown hb8
            go_wp2_with fail
            go_ret
            exact ⟨rfl, hB8⟩
      · have u1 : decide ((i : Int) < (o.length : Int)) = false := decide_eq_false (by omega)
        go_wp2_with fail
        go_loopw [10, 12] (fun mv iv wi => ∃ (j : Nat) (Q : List Prt), j ≤ mm + 1 ∧ iv = .int .i64 ((j : Int) - 1) ∧ OC lay 31 wi w2.heap.size mv Q ∧ Below w2.heap.size w2 wi ∧ Q.length + j ≤ 40 ∧ Hid ((∀ x ∈ Q, x ∈ L) ∧ ∀ x ∈ L.drop j, x ∈ Q)) (fun _ i _ => (intOf i + 1).toNat)
        case atStart => exact ⟨mm + 1, M, Nat.le_refl _, by first | rfl | go_num | (congr 1; omega), hown, hB, hMl, hM.out, fun x hx => by rw [List.drop_eq_nil_of_le (by rw [HLL.out]; exact Nat.le_refl _)] at hx; simp at hx⟩
        case round =>
          clear hown hB hM hMl hBs hCM
          obtain ⟨j, Q, hj, rfl, hown, hB, hQl, hQ⟩ := hrel
          obtain ⟨pq, cq, rfl, hCQ⟩ := hown.form
          have hBs := hB.size
          by_cases hj0 : 0 < j
          · obtain ⟨jn, rfl⟩ : ∃ jn, j = jn + 1 := ⟨j - 1, by omega⟩
            have u3 : decide (((jn : Int) + 1 - 1) ≥ 0) = true := decide_eq_true (by omega)
            have u4 : decide ((jn : Int) ≥ 0) = true := decide_eq_true (by omega)
            obtain ⟨⟨a, bb, ss⟩, hx⟩ : ∃ x, L[jn]? = some x := ⟨_, List.getElem?_eq_getElem (by rw [HLL.out]; omega)⟩
            have hx0 : wr.cell? ⟨b, off + jn * 3, none⟩ = some (.int .i64 a) := (hB.cell (p := ⟨b, off + jn * 3, none⟩) hbl).trans (HC.out jn _ hx 0 _ rfl)
            have hx1 : wr.cell? ⟨b, off + jn * 3 + 1, none⟩ = some (.bool bb) := (hB.cell (p := ⟨b, off + jn * 3 + 1, none⟩) hbl).trans (HC.out jn _ hx 1 _ rfl)
            have hx2 : wr.cell? ⟨b, off + jn * 3 + 2, none⟩ = some (.string ss) := (hB.cell (p := ⟨b, off + jn * 3 + 2, none⟩) hbl).trans (HC.out jn _ hx 2 _ rfl)
            have HQ2 : Hid ((∀ x ∈ Q ++ [(⟨a, bb, ss⟩ : Prt)], x ∈ L) ∧ ∀ x ∈ L.drop jn, x ∈ Q ++ [(⟨a, bb, ss⟩ : Prt)]) := by
              refine ⟨fun x hx' => ?_, fun x hx' => ?_⟩
              · rcases List.mem_append.1 hx' with h | h
                · exact hQ.out.1 x h
                · rw [List.mem_singleton.1 h]; exact List.mem_of_getElem? hx
              · have hjl : jn < L.length := by rw [HLL.out]; omega
                rw [List.drop_eq_getElem_cons hjl] at hx'
                rw [List.getElem?_eq_getElem hjl] at hx
                rw [Option.some.inj hx] at hx'
                rcases List.mem_cons.1 hx' with h | h
                · rw [h]; simp
                · exact List.mem_append.2 (.inl (hQ.out.2 x h))
            clear hx hCQ
            go_wp2_with (at_builtin
                         refine wp_appC ty rfl (.tmp 75) (.tmp 80) rfl w2.heap.size _ Q (some ⟨wr.heap.size, 0, none⟩) 1 1 [⟨a, bb, ss⟩] rfl (hown.alloc _) rfl rfl (CI.one lay wr _ _) (by rw [List.length_singleton]; omega) (Nat.le_trans hBs (by simp)) ?_
                         intro v6 w6 hown6 hg6 hat6
                         have hB6 : Below w2.heap.size w2 w6 := below_oneC hB hBs _ hown hg6
                         clear hat6 hg6)
            go_roundw
            case rel => exact ⟨jn, Q ++ [⟨a, bb, ss⟩], by omega, by first | rfl | go_num | (congr 1; omega), hown6, hB6, by rw [List.length_append, List.length_singleton]; omega, HQ2⟩
            case measure => simp [intOf]
          · obtain rfl : j = 0 := by omega
            have u3 : decide (((0 : Nat) : Int) - 1 ≥ 0) = false := decide_eq_false (by omega)
            have hjq := hwh.out Q hQ.out.1 (fun x hx => hQ.out.2 x (by rw [List.drop_zero]; exact hx)) (by omega)
            have JO := Lib.hid (fun W (h : CI lay W pq cq Q) => fjoin_any pq cq Q.length Q W rfl h (fun x hx => hfit.out x (hQ.out.1 x hx)) s .nilIface (by rw [hjq]; exact ⟨rfl, rfl⟩))
            have u5 : (s.toList == s.toList) = true := by simp
            have hQ40 : Q.length ≤ 40 := by omega
            clear hjq
            go_wp2_with fail
            refine (JO.out _ hCQ).mono ?_; rintro e w8 ⟨rfl, hb8⟩
            have hB8 : Below w.heap.size w w8 := bcall (hB2.trans (hB.mono hB2s)) hb8
            clear JO hCQ hown hb8
            go_wp2_with fail
            go_ret
            exact ⟨rfl, hB8⟩
theorem law_any (s : ByteArray) (a : Int) (p : Option Addr) (cap : Nat) (o : List Int) (w : World) (ho : Ints w p cap o) : Law s a p cap o w := by
  by_cases h0 : cutBad s a = 0
  · obtain ⟨hs, n, rfl, hn, hn2, h40⟩ := cutBad_zero h0
    exact law_good s n p cap o w ho hs hn hn2 h40
  · exact law_bad s a p cap o w _ rfl h0

theorem reads : Try.f3.params.toList.all (fun t => Try.prog.readableRec t && decide (t < Try.prog.types.size)) = true := by kernel_rfl

theorem contract (H : Type) (enc : TypeId × Value → H) (W : World) (base : Nat) (args : Array Value) (ds gs : List (DataW H)) (before : List MemPlace)
    (hval : ∀ (j : Nat) t v, Try.f3.params[j]? = some t → args[j]? = some v → Value.okWide Try.prog W .any base t v)
    (hW : DataW.Whole enc Try.prog Try.f3.params.toList Rows.fragJoinSpec.vars false W args.toList ds gs before) :
    Calls Try.prog 3 args W fun e W' => ∃ v, e = .returned v ∧ Rows.fragJoinSpec.post enc Try.prog Try.f3 false true false false W args v W' := by
  have hW' := hW
  obtain ⟨p, q, hA0, hV, rfl, hfz, hnd⟩ := hW
  have hA : DataW.TrodAll enc Try.prog W 0 (fun _ => true) true Try.f3.params.toList args.toList ds p := hA0
  have hlt := hA.lt
  rw [Try.params3] at hA hval
  obtain ⟨v0, vs0, d0, ds0, p0, q0, hargs, rfl, rfl, h0, r0⟩ := trodAll_cons hA
  obtain ⟨v1, vs1, d1, ds1, p1, q1, hvs1, rfl, rfl, h1, r1⟩ := trodAll_cons r0
  obtain ⟨v2, vs2, d2, ds2, p2, q2, hvs2, rfl, rfl, h2, r2⟩ := trodAll_cons r1
  obtain ⟨hvsn, rfl, rfl⟩ := trodAll_nil r2
  simp only [hvsn, hvs2, hvs1] at hargs
  obtain rfl : args = #[v0, v1, v2] := by cases args; simp_all
  obtain ⟨rfl, rfl⟩ := trodVars_none hV
  clear hA0
  obtain ⟨s0, rfl, rfl, rfl, z0⟩ := Go.ChangeMaps.open_string Try.underlying9 (hval 0 9 v0 rfl rfl) h0
  obtain ⟨a1, rfl, rfl, rfl, w1⟩ := open_int Try.underlying3 (hval 1 3 v1 rfl rfl) h1
  have b1 := bounds_int w1
  obtain ⟨p2a, cap2, l2, rfl, i2⟩ := open_intsl Try.underlying22 Try.underlying3 (by kernel_rfl) (hval 2 22 v2 rfl rfl) h2 (fun x hx => hlt x (by simp [hx]))
  exact law_post 4 laid reads rfl Try.underlying4 rfl hW' ⟨rfl, rfl, rfl⟩ (law_any s0 a1 p2a cap2 l2 W i2)

set_option maxRecDepth 100000 in
theorem lifted (os : Os) (started : os.Started) (H : Type) (enc : TypeId × Value → H) :
    ReturnsInHanded {} Try.checked os 3 .any (Rows.fragJoinSpec.pre6 enc Try.prog Try.f3 Rows.fragJoinRow.domain false) (Rows.fragJoinSpec.post enc Try.prog Try.f3 false true false false) := by
  refine returnsInHanded_of_change (C := Try.checked) own started (by kernel_rfl) Try.func3
    (ChangeSpec.witness6 (enc := enc) (C := Try.checked) false ⟨#[], #[.string .empty, .int .i64 0, .slice none 0 0], []⟩ 8 (by kernel_rfl) (by kernel_rfl) (by kernel_rfl) (by kernel_rfl)) ?_
  intro W base args ds gs before hval hW _ _
  exact contract H enc W base args ds gs before hval hW

theorem proved : Rows.FragJoinSaid :=
  OpenClaim.holds_of_wide 3 Try.f3 rfl rfl rfl rfl rfl rfl rfl ⟨rfl, rfl, rfl, rfl, rfl⟩ rfl rfl rfl rfl rfl (by kernel_rfl) Try.func3 (by kernel_rfl)
    (of_decide_eq_true (by kernel_rfl)) (by unfold Func.isWrapper; first | (rw [if_pos (by decide +kernel)]; kernel_rfl) | (rw [if_neg (by decide +kernel)]; exact ⟨rfl, rfl⟩))
    (fun os started H enc _ => lifted os started H enc)

end Go.Proofs.Ytaflpdagehocfaa.fragJoinP
