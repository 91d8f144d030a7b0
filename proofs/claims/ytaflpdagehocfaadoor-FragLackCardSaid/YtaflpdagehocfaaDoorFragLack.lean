/- Without one part that has bytes there is no text: the law returns true for every input. No condition. -/
import Derived.Test.YtaflpdagehocfaaDoorFragCut
import Derived.Test.YtaflpdagehocfaaDoorAs
import Derived.Test.YtaflpdagehocfaaDoorCards
import Derived.Test.YtaflpdagehocfaaDoorTie
import Derived.Deep.DeepHandedRow
import Derived.Lib.LaidTab
import Derived.LaidHandle
import Derived.SevenTiedAt
namespace Go.Proofs.YtaflpdagehocfaaDoor.fragLackP
open Go.ChangeShapes Go.WideShapes Go.ChangeAt Go.RowKit
open Go.Proofs.YtaflpdagehocfaaDoor.Kit Go.Proofs.YtaflpdagehocfaaDoor.App Go.Proofs.YtaflpdagehocfaaDoor.Cells Go.Proofs.YtaflpdagehocfaaDoor.Part Go.Proofs.YtaflpdagehocfaaDoor.As
set_option linter.unusedVariables false
set_option maxRecDepth 20000

abbrev Law (s : ByteArray) (a b : Int) (w : World) : Prop := Calls Tryd.prog 4 #[.string s, .int .i64 a, .int .i64 b] w fun e w' => e = .returned (.bool true) ∧ Below w.heap.size w w'
set_option maxHeartbeats 1000000 in
theorem law_bad (s : ByteArray) (a b : Int) (w : World) (m : Int) (hm : cutBad s a = m) (h0 : m ≠ 0) : Law s a b w := by
  have FA := Lib.hid (fact_any w)
  have CU := Lib.hid (fun W => fcut_bad s a W m hm h0)
  clear hm
  unfold Law
  go_enter Tryd.func4, Tryd.ntmps4
  go_wp2_with fail
  refine FA.out.mono ?_; rintro e w1 ⟨rfl, hb1⟩
  go_wp2_with fail
  refine (CU.out _).mono ?_; rintro e w2 ⟨rfl, rfl⟩
  clear CU FA
  go_wp2_with fail
  go_ret
  exact ⟨rfl, hb1⟩
set_option maxHeartbeats 1000000 in
theorem law_out (s : ByteArray) (n : Nat) (b : Int) (w : World) (hb : -9223372036854775808 ≤ b ∧ b ≤ 9223372036854775807) (hs : s.size ≤ 200) (hn : 0 < n) (hn2 : n ≤ 200) (h40 : more s n < 40) (hk : ¬ (0 ≤ b ∧ b ≤ more s n)) : Law s n b w := by
  have FA := Lib.hid (fact_any w)
  have CU := Lib.hid (fun W => fcut_some s n W hs hn hn2 h40)
  obtain ⟨mm, hmm⟩ : ∃ mm, more s n = mm := ⟨_, rfl⟩
  have hlen : Hid ((parts s n).length = mm + 1) := by have := parts_len s n; rw [hmm] at this; exact this
  rw [hmm] at hk h40
  have IN := Lib.hid (fun W => in_any b 0 (mm : Int) W false (by
    cases h1 : (decide ((0 : Int) ≤ b) && decide (b ≤ (mm : Int))) with
    | false => rfl
    | true => simp at h1; exact absurd ⟨h1.1, by omega⟩ hk))
  clear hk hmm
  unfold Law
  go_enter Tryd.func4, Tryd.ntmps4
  go_wp2_with fail
  refine FA.out.mono ?_; rintro e w1 ⟨rfl, hb1⟩
  go_wp2_with fail
  refine (CU.out _).mono ?_; rintro e w2 ⟨v, rfl, hown, hb2⟩
  have hB2 := bcall hb1 hb2
  obtain ⟨p, cp, rfl, _⟩ := hown.form
  rw [hlen.out]
  clear CU FA hown
  go_wp2_with fail
  refine (IN.out _).mono ?_; rintro e w3 ⟨rfl, rfl⟩
  go_wp2_with fail
  go_ret
  exact ⟨rfl, hB2⟩
set_option maxHeartbeats 2000000 in
theorem law_good (s : ByteArray) (n k : Nat) (w : World) (hg : Handle w) (hs : s.size ≤ 200) (hn : 0 < n) (hn2 : n ≤ 200) (h40 : more s n < 40) (hk : k ≤ more s n) : Law s n k w := by
  have FA := Lib.hid (fact_any w)
  have CU := Lib.hid (fun W => fcut_some s n W hs hn hn2 h40)
  have hlk := lack_parts s n k hn hs h40 hk
  obtain ⟨L, hL⟩ : ∃ L, parts s n = L := ⟨_, rfl⟩
  have hLl : L.length = more s n + 1 := by rw [← hL, parts_len]
  have hfL : ∀ y ∈ L, Fits y := fun y hy => (fits_parts s n hn hs y (by rw [hL]; exact hy)).1
  rw [hL] at CU hlk
  have HF := Lib.hid (show ∀ y ∈ L.take k ++ L.drop (k + 1), Fits y from fun y hy => by
    rcases List.mem_append.1 hy with h | h
    · exact hfL y (List.mem_of_mem_take h)
    · exact hfL y (List.mem_of_mem_drop h))
  obtain ⟨mm, hmm⟩ : ∃ mm, more s n = mm := ⟨_, rfl⟩
  rw [hmm] at hk h40 hLl
  have IN := Lib.hid (fun W => in_any (k : Int) 0 (mm : Int) W true (by simp; omega))
  obtain ⟨all, hall⟩ : ∃ all, L.take k ++ L.drop (k + 1) = all := ⟨_, rfl⟩
  rw [hall] at hlk HF
  have JO := Lib.hid (fun p cap W (h : CI lay W p cap all) => fjoin_any p cap all.length all W rfl h HF.out .empty (.iface 44 (.int .i64 5)) (by rw [hlk]; exact ⟨rfl, rfl⟩))
  have ER := Lib.hid (fun W (hW : Below w.heap.size w W) => error_hit 5 5 W (hg.below hW))
  have tm : ((5 : Int) == 5) = true := rfl
  have HALL := Lib.hid hall
  have HLL := Lib.hid hLl
  clear hmm hfL hL hall hLl hlk hg
  unfold Law
  go_enter Tryd.func4, Tryd.ntmps4
  go_wp2_with fail
  refine FA.out.mono ?_; rintro e w1 ⟨rfl, hb1⟩
  go_wp2_with fail
  refine (CU.out _).mono ?_; rintro e w2 ⟨v, rfl, hown, hb2⟩
  have hB2 := bcall hb1 hb2
  have hB2s := hB2.size
  obtain ⟨p, cp, rfl, hCI⟩ := hown.form
  obtain ⟨b, off, rfl, hbl, _⟩ := hCI.2.2 (by rw [HLL.out]; omega)
  obtain ⟨s1, s2, hCt⟩ := head_of hCI HLL.out.symm (by rw [HLL.out]; omega) k (by omega)
  obtain ⟨p2, c2, s3, s4, hCd⟩ := tail_of hCI HLL.out.symm (by rw [HLL.out]; omega) (k + 1) (by omega) ((k : Int) + 1) (by omega) (mm - k) (by omega)
  have HCt := Lib.hid hCt
  have HCd := Lib.hid hCd
  rw [HLL.out]
  clear CU FA hown hCI hCt hCd
  go_wp2_with fail
  refine (IN.out _).mono ?_; rintro e w4 ⟨rfl, rfl⟩
  clear IN
  have hkl : (L.take k).length = k := by rw [List.length_take, HLL.out]; omega
  have hdl : (L.drop (k + 1)).length = mm - k := by rw [List.length_drop, HLL.out]; omega
  have hnil : OC lay 23 w4 w4.heap.size (.slice none 0 0) [] := OC.nil _ _ _ _
  go_wp2_with (at_builtin
               first
                 | (refine wp_appC ty rfl (.tmp 38) (.tmp 41) rfl w4.heap.size _ [] (some ⟨b, off, none⟩) cp k (L.take k) rfl hnil rfl hkl.symm (HCt.out _ (brefl w4)) (by rw [hkl]; simp; omega) (Nat.le_refl _) ?_
                    intro v6 w6 hown6 hg6 hat6
                    have hB6 : Below w4.heap.size w4 w6 := below_appC (brefl w4) hnil hg6 (Nat.le_refl _)
                    have hB6s := hB6.size
                    rw [List.nil_append] at hown6
                    clear hat6)
                 | (refine wp_appC ty rfl (.tmp 43) (.tmp 47) rfl w4.heap.size _ (L.take k) p2 c2 (mm - k) (L.drop (k + 1)) rfl hown6 rfl hdl.symm (HCd.out _ hB6) (by rw [hdl, hkl]; omega) hB6s ?_
                    intro v7 w7 hown7 hg7 hat7
                    have hB7 : Below w4.heap.size w4 w7 := below_appC hB6 hown6 hg7 hB6s
                    rw [HALL.out] at hown7
                    obtain ⟨p7, c7, rfl, hCI7⟩ := hown7.form
                    clear hat7))
  have hBf : Below w.heap.size w w7 := hB2.trans (hB7.mono hB2s)
  refine (JO.out p7 c7 _ hCI7).mono ?_; rintro e w8 ⟨rfl, hb8⟩
  have hB8 := bcall hBf hb8
  clear JO hown6 hown7 hg6 hg7 hCI7 hB6 hB7 hBf hb8 hnil s1 s2 s3 s4 HCt HCd
  go_wp2_with fail
  refine (ER.out _ hB8).mono ?_; rintro e w9 ⟨rfl, hb9⟩
  have hB9 := bcall hB8 hb9
  clear ER hb9
  go_wp2_with fail
  go_ret
  exact ⟨rfl, hB9⟩
theorem law_any (s : ByteArray) (a b : Int) (w : World) (hg : Handle w) (hb : -9223372036854775808 ≤ b ∧ b ≤ 9223372036854775807) : Law s a b w := by
  by_cases h0 : cutBad s a = 0
  · obtain ⟨hs, n, rfl, hn, hn2, h40⟩ := cutBad_zero h0
    by_cases hk : 0 ≤ b ∧ b ≤ more s n
    · obtain ⟨k, rfl⟩ : ∃ k : Nat, b = (k : Int) := ⟨b.toNat, by omega⟩
      exact law_good s n k w hg hs hn hn2 h40 (by omega)
    · exact law_out s n b w hb hs hn hn2 h40 hk
  · exact law_bad s a b w _ rfl h0

theorem reads : Tryd.f4.params.toList.all (fun t => Tryd.prog.readableRec t && decide (t < Tryd.prog.types.size)) = true := by kernel_rfl
theorem et : Tryd.prog.globalNamed "errors.errorType" = some 0 := by kernel_rfl
theorem rt : (Tryd.prog.cutTypes.find? (·.1 == "internal/reflectlite.rtype")).map (·.2) = some 86 := by kernel_rfl
theorem oneRow : ((List.range Tryd.prog.types.size).filter fun t => Tryd.prog.rowNamed t [101, 114, 114, 111, 114]) = [28] := by kernel_rfl

theorem handle_of_laid {W : World} (h : laidMetH Tryd.prog Rows.fragLackRow.laid W) : Handle W := by
  have h' : laidMet Tryd.prog [] W ∧ handlesMet Tryd.prog Rows.fragLackRow.laid W := h
  obtain ⟨name, u, ty, e1, e2, e3, e4, e5⟩ := h'.2 _ (List.mem_singleton.2 rfl)
  have en : name = [101, 114, 114, 111, 114] := (Option.some.inj e1).symm
  subst en
  obtain rfl := Option.some.inj (rt.symm.trans e2)
  have hm : ty ∈ (List.range Tryd.prog.types.size).filter fun t => Tryd.prog.rowNamed t [101, 114, 114, 111, 114] := List.mem_filter.2 ⟨List.mem_range.2 e3, e4⟩
  rw [oneRow] at hm
  obtain rfl := List.mem_singleton.1 hm
  have hh : typeHandle Tryd.prog 28 = .pointer (some ⟨1, 28, none⟩) := by kernel_rfl
  rw [hh] at e5
  have e6 := World.var?_cell et e5 0
  unfold Handle
  simpa using e6

noncomputable def laidWorld (os : Os) : World :=
  { World.holding Tryd.prog os ⟨#[], #[], []⟩ with heap := (World.holding Tryd.prog os ⟨#[], #[], []⟩).heap.modify 0 fun
      | .cells _ t frozen => .cells #[.iface 86 (.agg #[.pointer (some ⟨1, 28, none⟩)])] t frozen
      | o => o }
theorem laid_met (os : Os) : laidMetH Tryd.prog Rows.fragLackRow.laid ((laidWorld os).forCall (fun _ _ => 0) ⟨#[], #[.string .empty, .int .i64 0, .int .i64 0], []⟩).memory :=
  laidMetH_of_parts (laidMet_nil _ _) (by kernel_rfl)
theorem reads_wit (os : Os) {H : Type} (enc : TypeId × Value → H) : ∃ places, DataW.whole enc Tryd.prog ((laidWorld os).forCall (fun _ _ => 0) ⟨#[], #[.string .empty, .int .i64 0, .int .i64 0], []⟩).memory Tryd.f4.params.toList Rows.fragLackSpec.vars false (#[.string .empty, .int .i64 0, .int .i64 0] : Array Value).toList 8 = some ([.lit (.string []), .lit (.int .i64 0), .lit (.int .i64 0)], [], places) :=
  ⟨[], by kernel_rfl⟩

theorem contract (H : Type) (enc : TypeId × Value → H) (W : World) (base : Nat) (args : Array Value) (ds gs : List (DataW H)) (before : List MemPlace)
    (hval : ∀ (j : Nat) t v, Tryd.f4.params[j]? = some t → args[j]? = some v → Value.okWide Tryd.prog W .any base t v)
    (hW : DataW.Whole enc Tryd.prog Tryd.f4.params.toList Rows.fragLackSpec.vars false W args.toList ds gs before) (hL : laidMetH Tryd.prog Rows.fragLackRow.laid W) :
    Calls Tryd.prog 4 args W fun e W' => ∃ v, e = .returned v ∧ Rows.fragLackSpec.post enc Tryd.prog Tryd.f4 false true false false W args v W' := by
  have hW' := hW
  have hg := handle_of_laid hL
  obtain ⟨p, q, hA0, hV, rfl, hfz, hnd⟩ := hW
  have hA : DataW.TrodAll enc Tryd.prog W 0 (fun _ => true) true Tryd.f4.params.toList args.toList ds p := hA0
  have hlt := hA.lt
  rw [Tryd.params4] at hA hval
  obtain ⟨v0, vs0, d0, ds0, p0, q0, hargs, rfl, rfl, h0, r0⟩ := trodAll_cons hA
  obtain ⟨v1, vs1, d1, ds1, p1, q1, hvs1, rfl, rfl, h1, r1⟩ := trodAll_cons r0
  obtain ⟨v2, vs2, d2, ds2, p2, q2, hvs2, rfl, rfl, h2, r2⟩ := trodAll_cons r1
  obtain ⟨hvsn, rfl, rfl⟩ := trodAll_nil r2
  simp only [hvsn, hvs2, hvs1] at hargs
  obtain rfl : args = #[v0, v1, v2] := by cases args; simp_all
  obtain ⟨s0, rfl, rfl, rfl, z0⟩ := Go.ChangeMaps.open_string Tryd.underlying9 (hval 0 9 v0 rfl rfl) h0
  obtain ⟨a1, rfl, rfl, rfl, w1⟩ := open_int Tryd.underlying3 (hval 1 3 v1 rfl rfl) h1
  have b1 := bounds_int w1
  obtain ⟨a2, rfl, rfl, rfl, w2⟩ := open_int Tryd.underlying3 (hval 2 3 v2 rfl rfl) h2
  have b2 := bounds_int w2
  obtain ⟨rfl, rfl⟩ := trodVars_none hV
  clear hA0
  exact law_post 4 laid reads rfl Tryd.underlying4 rfl hW' ⟨rfl, rfl, rfl⟩ (law_any s0 a1 a2 W hg ⟨b2.1, b2.2⟩)

set_option maxRecDepth 100000 in
theorem lifted (os : Os) (started : os.Started) (H : Type) (enc : TypeId × Value → H) (F : Stop.Interp) :
    ReturnsInHanded {} Tryd.checked os 4 .any ((OpenSpec.ofChange Rows.fragLackSpec).preRow enc Tryd.prog Tryd.f4 Rows.fragLackRow.domain false Rows.fragLackRow.laid) (((OpenSpec.ofChange Rows.fragLackSpec).at F).post enc Tryd.prog Tryd.f4 false true false false) := by
  obtain ⟨places, hx⟩ := reads_wit os enc
  refine returnsInHanded_of_row (C := Tryd.checked) (s := (OpenSpec.ofChange Rows.fragLackSpec)) own started (by kernel_rfl) Tryd.func4
    (witness_row_at (enc := enc) (C := Tryd.checked) false (laidWorld os) #[.string .empty, .int .i64 0, .int .i64 0] rfl (by kernel_rfl) (by kernel_rfl) (by kernel_rfl)
      (OpenSpec.preRow_of_cond 8 hx (by kernel_rfl) (fun k hk => by cases hk) (by kernel_rfl) (laid_met os))) ?_
  intro W base args ds gs before hval hW _ hcond _ hL _ _
  exact contract H enc W base args ds gs before hval hW hL

theorem said : Rows.FragLackSaid :=
  OpenClaim.holds_of_cond 4 Tryd.f4 rfl rfl rfl rfl rfl rfl rfl ⟨rfl, rfl, rfl, rfl, rfl⟩ rfl rfl rfl rfl rfl (by kernel_rfl) Tryd.func4 (by kernel_rfl)
    (of_decide_eq_true (by kernel_rfl)) (by unfold Func.isWrapper; first | (rw [if_pos (by decide +kernel)]; kernel_rfl) | (rw [if_neg (by decide +kernel)]; exact ⟨rfl, rfl⟩))
    (fun os started H enc _ F => by rw [OpenClaim.pre_eq_preRow]; exact lifted os started H enc F)

theorem plain (f : FuncId) (fn : Func) (hf : Tryd.pinned.checked.prog.funcNamed Rows.fragLackRow.func = some f) (hfn : Tryd.pinned.checked.prog.funcs[f]? = some fn) :
    true = Tryd.pinned.checked.prog.looks [] ∧ ∀ (j : Nat) t, fn.params[j]? = some t → Tryd.pinned.checked.prog.wantsStandIn t = false := by
  obtain rfl : f = 4 := Option.some.inj ((show Tryd.prog.funcNamed Rows.fragLackRow.func = some 4 by kernel_rfl).symm.trans hf) |>.symm
  obtain rfl : fn = Tryd.f4 := (Option.some.inj (Tryd.func4.symm.trans hfn)).symm
  refine ⟨by kernel_rfl, fun j t ht => ?_⟩
  have hall : Tryd.f4.params.toList.all (fun t => !Tryd.prog.wantsStandIn t) = true := by kernel_rfl
  have hm : t ∈ Tryd.f4.params.toList := by simpa using Array.mem_of_getElem? ht
  have := List.all_eq_true.1 hall t hm
  show Tryd.prog.wantsStandIn t = false
  simpa using this

theorem proved : Rows.FragLackCardSaid :=
  Claim7.holds_tied_plain_at .later [] _ _ _ _ said (fun _ h => by cases h) (by kernel_rfl) (fun _ h => by cases h) fragLack_row_tie rfl ⟨rfl, rfl⟩ (by kernel_rfl) rfl plain (by kernel_rfl)

end Go.Proofs.YtaflpdagehocfaaDoor.fragLackP
