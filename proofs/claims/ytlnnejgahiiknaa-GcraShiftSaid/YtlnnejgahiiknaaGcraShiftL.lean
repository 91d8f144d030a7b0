/- All times so much later, the same ones may come: the law returns true for every input. No condition. -/
import Derived.Test.YtlnnejgahiiknaaGcraFact
import Derived.Test.YtlnnejgahiiknaaRttIn
namespace Go.Proofs.Ytlnnejgahiiknaa.GcraShiftL
open Go.ChangeShapes Go.WideShapes Go.ChangeAt Go.RowKit Go.Proofs.Ytlnnejgahiiknaa.Kit Go.Proofs.Ytlnnejgahiiknaa.App Go.Proofs.Ytlnnejgahiiknaa.Err Go.Proofs.Ytlnnejgahiiknaa.GcraMath Go.Proofs.Ytlnnejgahiiknaa.Gcra Go.Proofs.Ytlnnejgahiiknaa.Truth
set_option linter.unusedVariables false
set_option maxRecDepth 20000
set_option maxHeartbeats 1000000

abbrev Law (s x : Int) (p : Option Addr) (n cap : Nat) (y : Int) (w : World) : Prop := Calls Try.prog 5 #[.int .i64 s, .int .i64 x, .slice p n cap, .int .i64 y] w fun e w' => e = .returned (.bool true) ∧ Below w.heap.size w w'
theorem law_bad (s x : Int) (p : Option Addr) (n cap : Nat) (l : List Int) (y : Int) (w : World) (hn : n = l.length) (hi : Ints w p cap l) (c : Int) (hc : code s x l = c) (h0 : c ≠ 0) : Law s x p n cap y w := by
  have FA := Lib.hid (fact_any w)
  have LN := Lib.hid (fun W (hb : Below w.heap.size w W) => leak_no s x p n cap l W hn (hi.below hb) c hc h0)
  have hlen := hi.len_le
  rw [← hn] at hlen
  clear hi hn hc h0
  unfold Law
  go_enter Try.func5, Try.ntmps5
  go_wp2_with fail
  refine FA.out.mono ?_; rintro e w1 ⟨rfl, hb1⟩
  go_wp2_with fail
  refine (LN.out _ hb1).mono ?_; rintro e w2 ⟨rfl, hb2⟩
  go_wp2_with fail
  go_ret
  exact ⟨rfl, bcall hb1 hb2⟩
set_option maxHeartbeats 4000000 in
theorem law_good (s x : Int) (p : Option Addr) (n cap : Nat) (l : List Int) (y : Int) (w : World) (hn : n = l.length) (hi : Ints w p cap l) (hc : code s x l = 0) : Law s x p n cap y w := by
  have FA := Lib.hid (fact_any w)
  have LY := Lib.hid (fun W (hb : Below w.heap.size w W) => leak_yes s x p n cap l W hn (hi.below hb) hc)
  have hlen := hi.len_le
  rw [← hn] at hlen
  obtain ⟨hr, hl200, hbad⟩ := code_zero hc
  rw [← hn] at hl200
  have HI := Lib.hid hi
  have HN := Lib.hid hn
  have HR := Lib.hid hr
  have HD := Lib.hid hbad
  obtain ⟨⟨s1, s2⟩, x1, x2⟩ := hr
  clear hi hn hc hbad
  unfold Law
  have hw := HI.out.2.2.1
  clear hw
  by_cases hy : 0 ≤ y ∧ y ≤ 1000
  · have IN := Lib.hid (fun W => Go.Proofs.Ytlnnejgahiiknaa.Rtt.in_any y 0 1000 W true (in_true hy))
    obtain ⟨y1, y2⟩ := hy
    go_enter Try.func5, Try.ntmps5
    go_wp2_with fail
    refine FA.out.mono ?_; rintro e w1 ⟨rfl, hb1⟩
    clear FA
    go_wp2_with fail
    refine (LY.out _ hb1).mono ?_; rintro e w2 ⟨rfl, ho, hb2⟩
    have HB2 := Lib.hid (bcall hb1 hb2)
    have HT := Lib.hid ho.tru.2
    have HI2 := Lib.hid (HI.out.below HB2.out)
    clear HI ho hb1 hb2 LY
    generalize w1.heap.size = b at HT ⊢
    have HT1 := Lib.hid (fun W (hb : Below w2.heap.size w2 W) (k : Nat) (hk : k < n) => by
      have h1 := (HT.out.below hb).one k _ (mays_get (by rw [← HN.out]; exact hk))
      rw [Nat.zero_add] at h1
      exact h1)
    go_wp2_with fail
    refine (IN.out _).mono ?_; rintro e w2 ⟨rfl, rfl⟩
    go_wp2_with fail
    go_loopw [12, 13] (fun av iv wr => ∃ (i : Nat) (vv : Value), vv = av ∧ iv = .int .i64 (i : Int) ∧ i ≤ n ∧ Hid (OwnI wr w2.heap.size vv ((l.take i).map (· + y))) ∧ Hid (∀ k, k < i → tm l k ≤ 1000 - y) ∧ Hid (Below w2.heap.size w2 wr)) (fun _ i _ => n - (intOf i).toNat)
    case atStart => exact ⟨0, _, rfl, rfl, Nat.zero_le _, Lib.hid (OwnI.nil _ _), Lib.hid (fun k hk => absurd hk (Nat.not_lt_zero _)), Lib.hid (brefl _)⟩
    case round =>
      obtain ⟨i, vv, rfl, rfl, hi, HO, HL, HB⟩ := hrel
      by_cases hin : i < n
      · have hil : i < l.length := by rw [← HN.out]; exact hin
        obtain ⟨b1, off, rfl, hbw, hcc⟩ := HI2.out.2.2.2 (by omega)
        have HC := Lib.hid (fun W (hb : Below w2.heap.size w2 W) => (hb.cell (p := ⟨b1, off + i, none⟩) hbw).trans (hcc i hil))
        have hfi := fine_of HD.out hil
        obtain ⟨⟨i1, i2⟩, _⟩ := hfi
        have HS : Hid ((l.take (i + 1)).map (· + y) = (l.take i).map (· + y) ++ [tm l i + y]) := Lib.hid (by
          rw [List.take_add_one, List.getElem?_eq_getElem hil, List.map_append]
          unfold tm
          rw [List.getElem?_eq_getElem hil]; rfl)
        have HLN : Hid (((l.take i).map (· + y)).length ≤ 200) := Lib.hid (by rw [List.length_map, List.length_take]; omega)
        have HTM := Lib.hid (show tm l i = l[i]?.getD 0 from rfl)
        rw [← HTM.out] at HC
        clear hcc hbw hil HTM
        obtain ⟨a, ha⟩ : ∃ a, tm l i = a := ⟨_, rfl⟩
        have HA := Lib.hid ha
        rw [ha] at HC HS i1 i2
        clear ha
        have ck := HC.out wr HB.out
        by_cases ha : 1000 - y < a
        · have t5 : decide (1000 - y < a) = true := decide_eq_true ha
          go_wp2_with fail
          go_ret
          exact ⟨rfl, bcall HB2.out HB.out⟩
        · have t5 : decide (1000 - y < a) = false := decide_eq_false ha
          have HL2 : Hid (∀ k, k < i + 1 → tm l k ≤ 1000 - y) := Lib.hid (fun k hk => by
            by_cases e : k = i
            · rw [e, HA.out]; omega
            · exact HL.out k (by omega))
          have hB0 := HB.out.size
          have hwf : (Lit.int .i64 (a + y)).wf = true := by simp [Lit.wf, IntKind.min, IntKind.max, IntKind.signed, IntKind.bits]; omega
          clear HL ha
          go_wp2_with (first
            | (at_builtin
               refine wp_app rfl (.tmp 46) (.tmp 53) rfl w2.heap.size vv ((l.take i).map (· + y)) (some ⟨wr.heap.size, 0, none⟩) 1 1 [a + y] rfl (HO.out.alloc _) rfl rfl (Ints.one _ (a + y) hwf) (by have := HLN.out; simp at this ⊢; omega) (Nat.le_trans hB0 (by simp)) ?_
               intro v8 w8 ho8 hg8 hat8
               have HB8 := Lib.hid (below_one HB.out hB0 _ HO.out hg8)
               have HO8 := Lib.hid ho8
               clear ho8 hg8 hat8))
          go_wp2_with fail
          go_roundw
          case rel => exact ⟨i + 1, v8, rfl, by first | rfl | go_num, by omega, Lib.hid (by rw [HS.out]; exact HO8.out), HL2, HB8⟩
          case measure => simp [intOf]; omega
      · obtain rfl : i = n := by omega
        have ho := HO.out
        rw [List.take_of_length_le (by rw [← HN.out]; exact Nat.le_refl _)] at ho
        obtain ⟨pq, cq, rfl, hiq⟩ := ho.form
        rw [List.length_map, ← HN.out]
        have hbd := bad_shift y1 HD.out (fun k hk => HL.out k (by rw [HN.out]; exact hk))
        have L2 := Lib.hid (leak_yes s x pq i cq (l.map (· + y)) wr (by rw [List.length_map]; exact HN.out) hiq (code_of HR.out (by rw [List.length_map, ← HN.out]; exact hl200) hbd))
        rw [mays_shift y1 HR.out HD.out] at L2
        have HBW := Lib.hid HB.out
        clear ho hiq hbd HO HL HB
        go_wp2_with fail
        refine L2.out.mono ?_; rintro e w5 ⟨rfl, ho5, hb5⟩
        have HT5 := Lib.hid ho5.tru.2
        have HB5 := Lib.hid (bcall HBW.out hb5)
        have HTB := Lib.hid (HT.out.below HB5.out)
        clear ho5 hb5 L2 HBW
        generalize wr.heap.size = b5 at HT5 ⊢
        have BB := Lib.hid (bools_any (some ⟨b, 0, none⟩) (some ⟨b5, 0, none⟩) i i i i (mays s x l) (mays s x l) w5 (by rw [mays_len, ← HN.out]) (by rw [mays_len, ← HN.out]) HTB.out HT5.out true (by simp))
        go_wp2_with fail
        refine BB.out.mono ?_; rintro e w6 ⟨rfl, m6, rfl⟩
        go_wp2_with fail
        go_ret
        exact ⟨rfl, bdrewN (bcall HB2.out HB5.out) m6⟩
  · have IN := Lib.hid (fun W => Go.Proofs.Ytlnnejgahiiknaa.Rtt.in_any y 0 1000 W false (in_false hy))
    clear hy
    go_enter Try.func5, Try.ntmps5
    go_wp2_with fail
    refine FA.out.mono ?_; rintro e w1 ⟨rfl, hb1⟩
    clear FA
    go_wp2_with fail
    refine (LY.out _ hb1).mono ?_; rintro e w2 ⟨rfl, ho, hb2⟩
    have HB2 := Lib.hid (bcall hb1 hb2)
    have HT := Lib.hid ho.tru.2
    have HI2 := Lib.hid (HI.out.below HB2.out)
    clear HI ho hb1 hb2 LY
    generalize w1.heap.size = b at HT ⊢
    have HT1 := Lib.hid (fun W (hb : Below w2.heap.size w2 W) (k : Nat) (hk : k < n) => by
      have h1 := (HT.out.below hb).one k _ (mays_get (by rw [← HN.out]; exact hk))
      rw [Nat.zero_add] at h1
      exact h1)
    go_wp2_with fail
    refine (IN.out _).mono ?_; rintro e w2 ⟨rfl, rfl⟩
    go_wp2_with fail
    go_ret
    exact ⟨rfl, HB2.out⟩

theorem reads : Try.f5.params.toList.all (fun t => Try.prog.readableRec t && decide (t < Try.prog.types.size)) = true := by kernel_rfl

theorem contract (H : Type) (enc : TypeId × Value → H) (W : World) (base : Nat) (args : Array Value) (ds gs : List (DataW H)) (before : List MemPlace)
    (hval : ∀ (j : Nat) t v, Try.f5.params[j]? = some t → args[j]? = some v → Value.okWide Try.prog W .any base t v)
    (hW : DataW.Whole enc Try.prog Try.f5.params.toList Rows.gcraShiftSpec.vars false W args.toList ds gs before) :
    Calls Try.prog 5 args W fun e W' => ∃ v, e = .returned v ∧ Rows.gcraShiftSpec.post enc Try.prog Try.f5 false true false false W args v W' := by
  have hW' := hW
  obtain ⟨p, q, hA0, hV, rfl, hfz, hnd⟩ := hW
  have hA : DataW.TrodAll enc Try.prog W 0 (fun _ => true) true Try.f5.params.toList args.toList ds p := hA0
  have hlt := hA.lt
  rw [Try.params5] at hA hval
  obtain ⟨v0, vs0, d0, ds0, p0, q0, hargs, rfl, rfl, h0, r0⟩ := trodAll_cons hA
  obtain ⟨v1, vs1, d1, ds1, p1, q1, hvs1, rfl, rfl, h1, r1⟩ := trodAll_cons r0
  obtain ⟨v2, vs2, d2, ds2, p2, q2, hvs2, rfl, rfl, h2, r2⟩ := trodAll_cons r1
  obtain ⟨v3, vs3, d3, ds3, p3, q3, hvs3, rfl, rfl, h3, r3⟩ := trodAll_cons r2
  obtain ⟨hvsn, rfl, rfl⟩ := trodAll_nil r3
  simp only [hvsn, hvs3, hvs2, hvs1] at hargs
  obtain rfl : args = #[v0, v1, v2, v3] := by cases args; simp_all
  obtain ⟨rfl, rfl⟩ := trodVars_none hV
  clear hA0
  obtain ⟨a0, rfl, rfl, rfl, w0⟩ := open_int Try.underlying3 (hval 0 3 v0 rfl rfl) h0
  have b0 := bounds_int w0
  obtain ⟨a1, rfl, rfl, rfl, w1⟩ := open_int Try.underlying3 (hval 1 3 v1 rfl rfl) h1
  have b1 := bounds_int w1
  obtain ⟨p2a, cap2, l2, rfl, i2⟩ := open_intsl Try.underlying22 Try.underlying3 (by kernel_rfl) (hval 2 22 v2 rfl rfl) h2 (fun x hx => hlt x (by simp [hx]))
  obtain ⟨a3, rfl, rfl, rfl, w3⟩ := open_int Try.underlying3 (hval 3 3 v3 rfl rfl) h3
  have b3 := bounds_int w3
  exact law_post 4 laid reads rfl Try.underlying4 rfl hW' ⟨rfl, rfl, rfl⟩ (by
    by_cases h : code a0 a1 l2 = 0
    · exact law_good a0 a1 p2a l2.length cap2 l2 a3 W rfl i2 h
    · exact law_bad a0 a1 p2a l2.length cap2 l2 a3 W rfl i2 _ rfl h)

set_option maxRecDepth 100000 in
theorem lifted (os : Os) (started : os.Started) (H : Type) (enc : TypeId × Value → H) :
    ReturnsInHanded {} Try.checked os 5 .any (Rows.gcraShiftSpec.pre6 enc Try.prog Try.f5 Rows.gcraShiftRow.domain false) (Rows.gcraShiftSpec.post enc Try.prog Try.f5 false true false false) := by
  refine returnsInHanded_of_change (C := Try.checked) own started (by kernel_rfl) Try.func5
    (ChangeSpec.witness6 (enc := enc) (C := Try.checked) false ⟨#[], #[.int .i64 0, .int .i64 0, .slice none 0 0, .int .i64 0], []⟩ 8 (by kernel_rfl) (by kernel_rfl) (by kernel_rfl) (by kernel_rfl)) ?_
  intro W base args ds gs before hval hW _ _
  exact contract H enc W base args ds gs before hval hW

theorem proved : Rows.GcraShiftSaid :=
  OpenClaim.holds_of_wide 5 Try.f5 rfl rfl rfl rfl rfl rfl rfl ⟨rfl, rfl, rfl, rfl, rfl⟩ rfl rfl rfl rfl rfl (by kernel_rfl) Try.func5 (by kernel_rfl)
    (of_decide_eq_true (by kernel_rfl)) (by unfold Func.isWrapper; first | (rw [if_pos (by decide +kernel)]; kernel_rfl) | (rw [if_neg (by decide +kernel)]; exact ⟨rfl, rfl⟩))
    (fun os started H enc _ => lifted os started H enc)
end Go.Proofs.Ytlnnejgahiiknaa.GcraShiftL
