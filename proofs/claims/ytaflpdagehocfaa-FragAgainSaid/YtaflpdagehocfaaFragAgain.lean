/- Cutting a part of a text again does not change the text that the parts make: the law returns true for every input. No condition. -/
import Derived.Test.YtaflpdagehocfaaFragCut
namespace Go.Proofs.Ytaflpdagehocfaa.fragAgainP
open Go.ChangeShapes Go.WideShapes Go.ChangeAt Go.RowKit
open Go.Proofs.Ytaflpdagehocfaa.Kit Go.Proofs.Ytaflpdagehocfaa.App Go.Proofs.Ytaflpdagehocfaa.Cells Go.Proofs.Ytaflpdagehocfaa.Part
set_option linter.unusedVariables false
set_option maxRecDepth 20000

abbrev Law (s : ByteArray) (a b c : Int) (w : World) : Prop := Calls Try.prog 4 #[.string s, .int .i64 a, .int .i64 b, .int .i64 c] w fun e w' => e = .returned (.bool true) ∧ Below w.heap.size w w'
set_option maxHeartbeats 1000000 in
theorem law_bad (s : ByteArray) (a b c : Int) (w : World) (m : Int) (hm : cutBad s a = m) (h0 : m ≠ 0) : Law s a b c w := by
  have FA := Lib.hid (fact_any w)
  have CU := Lib.hid (fun W => fcut_bad s a W m hm h0)
  clear hm
  unfold Law
  go_enter Try.func4, Try.ntmps4
  go_wp2_with fail
  refine FA.out.mono ?_; rintro e w1 ⟨rfl, hb1⟩
  go_wp2_with fail
  refine (CU.out _).mono ?_; rintro e w2 ⟨rfl, rfl⟩
  clear CU FA
  go_wp2_with fail
  go_ret
  exact ⟨rfl, hb1⟩
set_option maxHeartbeats 1000000 in
theorem law_out (s : ByteArray) (n : Nat) (b c : Int) (w : World) (hb : -9223372036854775808 ≤ b ∧ b ≤ 9223372036854775807) (hs : s.size ≤ 200) (hn : 0 < n) (hn2 : n ≤ 200) (h40 : more s n < 40) (hk : ¬ (0 ≤ b ∧ b ≤ more s n)) : Law s n b c w := by
  have FA := Lib.hid (fact_any w)
  have CU := Lib.hid (fun W => fcut_some s n W hs hn hn2 h40)
  obtain ⟨mm, hmm⟩ : ∃ mm, more s n = mm := ⟨_, rfl⟩
  have hlen : Hid ((parts s n).length = mm + 1) := by have := parts_len s n; rw [hmm] at this; exact this
  rw [hmm] at hk h40
  have IN := Lib.hid (fun W => in_any b 0 (mm : Int) W false (by
    cases h1 : (decide ((0 : Int) ≤ b) && decide (b ≤ (mm : Int))) with
    | false => rfl
    | true => simp at h1; exact absurd ⟨h1.1, by omega⟩ hk))
  clear hk hmm
  unfold Law
  go_enter Try.func4, Try.ntmps4
  go_wp2_with fail
  refine FA.out.mono ?_; rintro e w1 ⟨rfl, hb1⟩
  go_wp2_with fail
  refine (CU.out _).mono ?_; rintro e w2 ⟨v, rfl, hown, hb2⟩
  have hB2 := bcall hb1 hb2
  obtain ⟨p, cp, rfl, _⟩ := hown.form
  rw [hlen.out]
  clear CU FA hown
  go_wp2_with fail
  refine (IN.out _).mono ?_; rintro e w3 ⟨rfl, rfl⟩
  go_wp2_with fail
  go_ret
  exact ⟨rfl, hB2⟩
set_option maxHeartbeats 1000000 in
theorem law_less (s : ByteArray) (n k : Nat) (c : Int) (w : World) (hs : s.size ≤ 200) (hn : 0 < n) (hn2 : n ≤ 200) (h40 : more s n < 40) (hk : k ≤ more s n) (x : Prt) (hx : (parts s n)[k]? = some x) (m : Int) (hm : cutBad x.dat c = m) (h0 : m ≠ 0) : Law s n k c w := by
  have FA := Lib.hid (fact_any w)
  have CU := Lib.hid (fun W => fcut_some s n W hs hn hn2 h40)
  have hfx := fits_parts s n hn hs x (List.mem_of_getElem? hx)
  have AG := Lib.hid (fun W => fagain_bad x c m W hfx.1 hfx.2 hm h0)
  obtain ⟨mm, hmm⟩ : ∃ mm, more s n = mm := ⟨_, rfl⟩
  have hlen : Hid ((parts s n).length = mm + 1) := by have := parts_len s n; rw [hmm] at this; exact this
  rw [hmm] at hk h40
  have IN := Lib.hid (fun W => in_any (k : Int) 0 (mm : Int) W true (by simp; omega))
  have HX := Lib.hid hx
  obtain ⟨xp, xm, xs⟩ := x
  unfold val at AG
  simp only at AG
  clear hmm hm hx hfx
  unfold Law
  go_enter Try.func4, Try.ntmps4
  go_wp2_with fail
  refine FA.out.mono ?_; rintro e w1 ⟨rfl, hb1⟩
  go_wp2_with fail
  refine (CU.out _).mono ?_; rintro e w2 ⟨v, rfl, hown, hb2⟩
  have hB2 := bcall hb1 hb2
  obtain ⟨p, cp, rfl, hCI⟩ := hown.form
  obtain ⟨b, off, rfl, hbl, hcell⟩ := hCI.2.2 (by rw [hlen.out]; omega)
  have x0 : w2.cell? ⟨b, off + k * 3, none⟩ = some (.int .i64 xp) := hcell k _ HX.out 0 _ rfl
  have x1 : w2.cell? ⟨b, off + k * 3 + 1, none⟩ = some (.bool xm) := hcell k _ HX.out 1 _ rfl
  have x2 : w2.cell? ⟨b, off + k * 3 + 2, none⟩ = some (.string xs) := hcell k _ HX.out 2 _ rfl
  rw [hlen.out]
  clear CU FA hown hcell hCI
  go_wp2_with fail
  refine (IN.out _).mono ?_; rintro e w3 ⟨rfl, rfl⟩
  go_wp2_with fail
  refine (AG.out _).mono ?_; rintro e w4 ⟨rfl, hb4⟩
  have hB4 := bcall hB2 hb4
  clear AG IN x0 x1 x2
  go_wp2_with fail
  go_ret
  exact ⟨rfl, hB4⟩
set_option maxHeartbeats 2000000 in
theorem law_good (s : ByteArray) (n k q : Nat) (w : World) (hs : s.size ≤ 200) (hn : 0 < n) (hn2 : n ≤ 200) (h40 : more s n < 40) (hk : k ≤ more s n) (x : Prt) (hx : (parts s n)[k]? = some x) (hq : 0 < q) (hq2 : q ≤ 200) (hq40 : more x.dat q < 40) : Law s n k q w := by
  have FA := Lib.hid (fact_any w)
  have CU := Lib.hid (fun W => fcut_some s n W hs hn hn2 h40)
  have hfx := fits_parts s n hn hs x (List.mem_of_getElem? hx)
  have AG := Lib.hid (fun W => fagain_some x q W hfx.1 hfx.2 hq hq2 hq40)
  have hxs : x.dat.size ≤ 200 := by have := (right_iff x).1 hfx.2; have hb : x.bs.length = x.dat.size := rfl; omega
  have hwh := whole_again (whole_parts s n (parts s n) hn hs (fun _ h => h) (fun _ h => h)) hx hq hxs
  obtain ⟨L, hL⟩ : ∃ L, parts s n = L := ⟨_, rfl⟩
  obtain ⟨M, hM⟩ : ∃ M, (parts x.dat q).map (moved x) = M := ⟨_, rfl⟩
  have hMl : M.length = more x.dat q + 1 := by rw [← hM, List.length_map, parts_len]
  have hLl : L.length = more s n + 1 := by rw [← hL, parts_len]
  have hfM : ∀ y ∈ M, Fits y := fun y hy => by
    have hor := hwh.1 y (List.mem_append.2 (.inl (List.mem_append.2 (.inl (by rw [hM]; exact hy)))))
    have hr := (right_iff y).1 hor.1
    have hb : y.bs.length = y.dat.size := rfl
    refine ⟨?_, by unfold maxLen; omega⟩
    simp [Lit.wf, IntKind.min, IntKind.max, IntKind.signed, IntKind.bits]; omega
  have hfL : ∀ y ∈ L, Fits y := fun y hy => (fits_parts s n hn hs y (by rw [hL]; exact hy)).1
  rw [hL] at CU hx hwh
  rw [hM] at AG hwh
  have HF := Lib.hid (show ∀ y ∈ M ++ L.take k ++ L.drop (k + 1), Fits y from fun y hy => by
    rcases List.mem_append.1 hy with h | h
    · rcases List.mem_append.1 h with h | h
      · exact hfM y h
      · exact hfL y (List.mem_of_mem_take h)
    · exact hfL y (List.mem_of_mem_drop h))
  obtain ⟨mm, hmm⟩ : ∃ mm, more s n = mm := ⟨_, rfl⟩
  rw [hmm] at hk h40 hLl
  have hMb : M.length ≤ 40 := by omega
  have IN := Lib.hid (fun W => in_any (k : Int) 0 (mm : Int) W true (by simp; omega))
  have HX := Lib.hid hx
  obtain ⟨all, hall⟩ : ∃ all, M ++ L.take k ++ L.drop (k + 1) = all := ⟨_, rfl⟩
  have hal : all.length = M.length + mm := by rw [← hall, List.length_append, List.length_append, List.length_take, List.length_drop]; omega
  rw [hall] at hwh HF
  obtain ⟨js, je, hj, hj2⟩ : ∃ (js : ByteArray) (je : Value), (match joinM all with | .ok t => js = ⟨t.toArray⟩ ∧ je = .nilIface | .error m => js = .empty ∧ je = .iface 39 (.int .i64 m)) ∧ (all.length ≤ 40 → js = s ∧ je = .nilIface) ∧ (¬ all.length ≤ 40 → js = .empty ∧ je = .iface 39 (.int .i64 4)) := by
    by_cases h4 : all.length ≤ 40
    · have hjw := join_whole hwh h4
      exact ⟨s, .nilIface, by rw [hjw]; exact ⟨rfl, rfl⟩, fun _ => ⟨rfl, rfl⟩, fun h => absurd h4 h⟩
    · have e4 : joinM all = .error 4 := by unfold joinM; rw [if_pos (by omega)]
      exact ⟨.empty, .iface 39 (.int .i64 4), by rw [e4]; exact ⟨rfl, rfl⟩, fun h => absurd h h4, fun _ => ⟨rfl, rfl⟩⟩
  have JO := Lib.hid (fun p cap W (h : CI lay W p cap all) => fjoin_any p cap all.length all W rfl h HF.out js je hj)
  have HALL := Lib.hid hall
  have HLL := Lib.hid hLl
  have HJ2 := Lib.hid hj2
  obtain ⟨xp, xm, xs⟩ := x
  unfold val at AG
  simp only at AG
  have hab : all.length ≤ 80 := by omega
  clear hmm hx hfx hj hj2 hwh hfM hfL hL hM hMl hall hLl hal
  unfold Law
  go_enter Try.func4, Try.ntmps4
  go_wp2_with fail
  refine FA.out.mono ?_; rintro e w1 ⟨rfl, hb1⟩
  go_wp2_with fail
  refine (CU.out _).mono ?_; rintro e w2 ⟨v, rfl, hown, hb2⟩
  have hB2 := bcall hb1 hb2
  obtain ⟨p, cp, rfl, hCI⟩ := hown.form
  obtain ⟨b, off, rfl, hbl, hcell⟩ := hCI.2.2 (by rw [HLL.out]; omega)
  have x0 : w2.cell? ⟨b, off + k * 3, none⟩ = some (.int .i64 xp) := hcell k _ HX.out 0 _ rfl
  have x1 : w2.cell? ⟨b, off + k * 3 + 1, none⟩ = some (.bool xm) := hcell k _ HX.out 1 _ rfl
  have x2 : w2.cell? ⟨b, off + k * 3 + 2, none⟩ = some (.string xs) := hcell k _ HX.out 2 _ rfl
  obtain ⟨s1, s2, hCt⟩ := head_of hCI HLL.out.symm (by rw [HLL.out]; omega) k (by omega)
  obtain ⟨p2, c2, s3, s4, hCd⟩ := tail_of hCI HLL.out.symm (by rw [HLL.out]; omega) (k + 1) (by omega) ((k : Int) + 1) (by omega) (mm - k) (by omega)
  have HCt := Lib.hid hCt
  have HCd := Lib.hid hCd
  rw [HLL.out]
  clear CU FA hown hcell hCI hCt hCd
  go_wp2_with fail
  refine (IN.out _).mono ?_; rintro e w3 ⟨rfl, rfl⟩
  go_wp2_with fail
  refine (AG.out _).mono ?_; rintro e w4 ⟨v4, rfl, hown4, hb4⟩
  have hB4 := bcall hB2 hb4
  have hB4s := hB4.size
  obtain ⟨p4, c4, rfl, hCI4⟩ := hown4.form
  clear AG IN x0 x1 x2 hown4
  have hkl : (L.take k).length = k := by rw [List.length_take, HLL.out]; omega
  have hdl : (L.drop (k + 1)).length = mm - k := by rw [List.length_drop, HLL.out]; omega
  have hnil : OC lay 31 w4 w4.heap.size (.slice none 0 0) [] := OC.nil _ _ _ _
  go_wp2_with (at_builtin
               first
                 | (refine wp_appC ty rfl (.tmp 55) (.tmp 56) rfl w4.heap.size _ [] p4 c4 M.length M rfl hnil rfl rfl hCI4 (by simp; omega) (Nat.le_refl _) ?_
                    intro v5 w5 hown5 hg5 hat5
                    have hB5 : Below w4.heap.size w4 w5 := below_appC (brefl w4) hnil hg5 (Nat.le_refl _)
                    have hB5s := hB5.size
                    have hq5 : Below w3.heap.size w3 w5 := hb4.trans (hB5.mono hb4.size)
                    rw [List.nil_append] at hown5
                    clear hat5)
                 | (refine wp_appC ty rfl (.tmp 58) (.tmp 61) rfl w4.heap.size _ M (some ⟨b, off, none⟩) cp k (L.take k) rfl hown5 rfl hkl.symm (HCt.out _ hq5) (by rw [hkl]; omega) hB5s ?_
                    intro v6 w6 hown6 hg6 hat6
                    have hB6 : Below w4.heap.size w4 w6 := below_appC hB5 hown5 hg6 hB5s
                    have hB6s := hB6.size
                    have hq6 : Below w3.heap.size w3 w6 := hb4.trans (hB6.mono hb4.size)
                    clear hat6)
                 | (refine wp_appC ty rfl (.tmp 63) (.tmp 67) rfl w4.heap.size _ (M ++ L.take k) p2 c2 (mm - k) (L.drop (k + 1)) rfl hown6 rfl hdl.symm (HCd.out _ hq6) (by rw [hdl, List.length_append, hkl]; omega) hB6s ?_
                    intro v7 w7 hown7 hg7 hat7
                    have hB7 : Below w4.heap.size w4 w7 := below_appC hB6 hown6 hg7 hB6s
                    rw [HALL.out] at hown7
                    obtain ⟨p7, c7, rfl, hCI7⟩ := hown7.form
                    clear hat7))
  have hBf : Below w.heap.size w w7 := hB4.trans (hB7.mono hB4s)
  refine (JO.out p7 c7 _ hCI7).mono ?_; rintro e w8 ⟨rfl, hb8⟩
  have hB8 := bcall hBf hb8
  have hj := HJ2.out
  clear JO hown5 hown6 hown7 hg5 hg6 hg7 hCI7 hCI4 hB5 hB6 hB7 hB4 hBf hb8 hb4 hq5 hq6 hnil s1 s2 s3 s4 HCt HCd
  by_cases h4 : all.length ≤ 40
  · obtain ⟨rfl, rfl⟩ := hj.1 h4
    have u1 : decide ((all.length : Int) > 40) = false := decide_eq_false (by omega)
    have u2 : (js.toList == js.toList) = true := by simp
    clear hj
    go_wp2_with fail
    go_ret
    exact ⟨rfl, hB8⟩
  · obtain ⟨rfl, rfl⟩ := hj.2 h4
    have u1 : decide ((all.length : Int) > 40) = true := decide_eq_true (by omega)
    clear hj
    go_wp2_with fail
    go_ret
    exact ⟨rfl, hB8⟩
theorem law_any (s : ByteArray) (a b c : Int) (w : World) (hb : -9223372036854775808 ≤ b ∧ b ≤ 9223372036854775807) : Law s a b c w := by
  by_cases h0 : cutBad s a = 0
  · obtain ⟨hs, n, rfl, hn, hn2, h40⟩ := cutBad_zero h0
    by_cases hk : 0 ≤ b ∧ b ≤ more s n
    · obtain ⟨k, rfl⟩ : ∃ k : Nat, b = (k : Int) := ⟨b.toNat, by omega⟩
      have hk2 : k ≤ more s n := by omega
      obtain ⟨x, hx⟩ : ∃ x, (parts s n)[k]? = some x := ⟨_, List.getElem?_eq_getElem (by rw [parts_len]; omega)⟩
      by_cases h1 : cutBad x.dat c = 0
      · obtain ⟨_, q, rfl, hq, hq2, hq40⟩ := cutBad_zero h1
        exact law_good s n k q w hs hn hn2 h40 hk2 x hx hq hq2 hq40
      · exact law_less s n k c w hs hn hn2 h40 hk2 x hx _ rfl h1
    · exact law_out s n b c w hb hs hn hn2 h40 hk
  · exact law_bad s a b c w _ rfl h0

theorem reads : Try.f4.params.toList.all (fun t => Try.prog.readableRec t && decide (t < Try.prog.types.size)) = true := by kernel_rfl

theorem contract (H : Type) (enc : TypeId × Value → H) (W : World) (base : Nat) (args : Array Value) (ds gs : List (DataW H)) (before : List MemPlace)
    (hval : ∀ (j : Nat) t v, Try.f4.params[j]? = some t → args[j]? = some v → Value.okWide Try.prog W .any base t v)
    (hW : DataW.Whole enc Try.prog Try.f4.params.toList Rows.fragAgainSpec.vars false W args.toList ds gs before) :
    Calls Try.prog 4 args W fun e W' => ∃ v, e = .returned v ∧ Rows.fragAgainSpec.post enc Try.prog Try.f4 false true false false W args v W' := by
  have hW' := hW
  obtain ⟨p, q, hA0, hV, rfl, hfz, hnd⟩ := hW
  have hA : DataW.TrodAll enc Try.prog W 0 (fun _ => true) true Try.f4.params.toList args.toList ds p := hA0
  have hlt := hA.lt
  rw [Try.params4] at hA hval
  obtain ⟨v0, vs0, d0, ds0, p0, q0, hargs, rfl, rfl, h0, r0⟩ := trodAll_cons hA
  obtain ⟨v1, vs1, d1, ds1, p1, q1, hvs1, rfl, rfl, h1, r1⟩ := trodAll_cons r0
  obtain ⟨v2, vs2, d2, ds2, p2, q2, hvs2, rfl, rfl, h2, r2⟩ := trodAll_cons r1
  obtain ⟨v3, vs3, d3, ds3, p3, q3, hvs3, rfl, rfl, h3, r3⟩ := trodAll_cons r2
  obtain ⟨hvsn, rfl, rfl⟩ := trodAll_nil r3
  simp only [hvsn, hvs3, hvs2, hvs1] at hargs
  obtain rfl : args = #[v0, v1, v2, v3] := by cases args; simp_all
  obtain ⟨rfl, rfl⟩ := trodVars_none hV
  clear hA0
  obtain ⟨s0, rfl, rfl, rfl, z0⟩ := Go.ChangeMaps.open_string Try.underlying9 (hval 0 9 v0 rfl rfl) h0
  obtain ⟨a1, rfl, rfl, rfl, w1⟩ := open_int Try.underlying3 (hval 1 3 v1 rfl rfl) h1
  have b1 := bounds_int w1
  obtain ⟨a2, rfl, rfl, rfl, w2⟩ := open_int Try.underlying3 (hval 2 3 v2 rfl rfl) h2
  have b2 := bounds_int w2
  obtain ⟨a3, rfl, rfl, rfl, w3⟩ := open_int Try.underlying3 (hval 3 3 v3 rfl rfl) h3
  have b3 := bounds_int w3
  exact law_post 4 laid reads rfl Try.underlying4 rfl hW' ⟨rfl, rfl, rfl⟩ (law_any s0 a1 a2 a3 W ⟨b2.1, b2.2⟩)

set_option maxRecDepth 100000 in
theorem lifted (os : Os) (started : os.Started) (H : Type) (enc : TypeId × Value → H) :
    ReturnsInHanded {} Try.checked os 4 .any (Rows.fragAgainSpec.pre6 enc Try.prog Try.f4 Rows.fragAgainRow.domain false) (Rows.fragAgainSpec.post enc Try.prog Try.f4 false true false false) := by
  refine returnsInHanded_of_change (C := Try.checked) own started (by kernel_rfl) Try.func4
    (ChangeSpec.witness6 (enc := enc) (C := Try.checked) false ⟨#[], #[.string .empty, .int .i64 0, .int .i64 0, .int .i64 0], []⟩ 8 (by kernel_rfl) (by kernel_rfl) (by kernel_rfl) (by kernel_rfl)) ?_
  intro W base args ds gs before hval hW _ _
  exact contract H enc W base args ds gs before hval hW

theorem proved : Rows.FragAgainSaid :=
  OpenClaim.holds_of_wide 4 Try.f4 rfl rfl rfl rfl rfl rfl rfl ⟨rfl, rfl, rfl, rfl, rfl⟩ rfl rfl rfl rfl rfl (by kernel_rfl) Try.func4 (by kernel_rfl)
    (of_decide_eq_true (by kernel_rfl)) (by unfold Func.isWrapper; first | (rw [if_pos (by decide +kernel)]; kernel_rfl) | (rw [if_neg (by decide +kernel)]; exact ⟨rfl, rfl⟩))
    (fun os started H enc _ => lifted os started H enc)

end Go.Proofs.Ytaflpdagehocfaa.fragAgainP
