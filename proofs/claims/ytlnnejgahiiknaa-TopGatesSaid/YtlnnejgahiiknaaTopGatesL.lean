/- A gate without slack lets one come just when no other has come within a step: the law returns true for every input. No condition. -/
import Derived.Test.YtlnnejgahiiknaaGcraLeak
import Derived.Test.YtlnnejgahiiknaaSub
namespace Go.Proofs.Ytlnnejgahiiknaa.TopGatesL
open Go.ChangeShapes Go.WideShapes Go.ChangeAt Go.RowKit Go.Proofs.Ytlnnejgahiiknaa.Kit Go.Proofs.Ytlnnejgahiiknaa.App Go.Proofs.Ytlnnejgahiiknaa.Err Go.Proofs.Ytlnnejgahiiknaa.GcraMath Go.Proofs.Ytlnnejgahiiknaa.Gcra Go.Proofs.Ytlnnejgahiiknaa.Truth
set_option linter.unusedVariables false
set_option maxRecDepth 20000
set_option maxHeartbeats 1000000

abbrev Law (s : Int) (p : Option Addr) (n cap : Nat) (w : World) : Prop := Calls Try.prog 6 #[.int .i64 s, .slice p n cap] w fun e w' => e = .returned (.bool true) ∧ Below w.heap.size w w'
theorem law_bad (s : Int) (p : Option Addr) (n cap : Nat) (l : List Int) (w : World) (hn : n = l.length) (hi : Ints w p cap l) (c : Int) (hc : code s 0 l = c) (h0 : c ≠ 0) : Law s p n cap w := by
  have LN := Lib.hid (leak_no s 0 p n cap l w hn hi c hc h0)
  have L1 := Lib.hid (fun W : World => leak_yes 2 0 (some ⟨W.heap.size, 0, none⟩) 3 3 [0, 1, 2] (W.alloc (.cells #[.int .i64 0, .int .i64 1, .int .i64 2] 3)) rfl (lit_ints W [0, 1, 2] (by decide) (by decide)) (by decide))
  rw [show mays 2 0 [0, 1, 2] = [true, false, true] by decide] at L1
  have BB := Lib.hid (fun (W : World) b (h : Tru W (some ⟨b, 0, none⟩) 3 [true, false, true]) => bools_any (some ⟨b, 0, none⟩) (some ⟨W.heap.size, 0, none⟩) 3 3 3 3 [true, false, true] [true, false, true] (W.alloc (.cells #[.bool true, .bool false, .bool true] 4)) rfl rfl (h.below (balloc (brefl _) _)) (lit_truth W [true, false, true] _ (by decide)) true rfl)
  have hlen := hi.len_le
  rw [← hn] at hlen
  clear hi hn hc h0
  unfold Law
  go_enter Try.func6, Try.ntmps6
  go_wp2_with fail
  refine LN.out.mono ?_; rintro e w2 ⟨rfl, hb2⟩
  go_wp2_with fail
  refine (L1.out _).mono ?_; rintro e w3 ⟨rfl, ho3, hb3⟩
  have HB3 : Hid (Below w2.heap.size w2 w3) := Lib.hid ((balloc (brefl w2) _).trans (hb3.mono (by simp)))
  have HT3 := Lib.hid ho3.tru.2
  clear ho3 hb3 L1
  generalize (w2.alloc (.cells #[.int .i64 0, .int .i64 1, .int .i64 2] 3)).heap.size = b3 at HT3 ⊢
  have BC := Lib.hid (BB.out w3 b3 HT3.out)
  clear BB
  go_wp2_with fail
  refine BC.out.mono ?_; rintro e w4 ⟨rfl, m4, rfl⟩
  have HB5 := Lib.hid (bdrewN (bcall HB3.out (balloc (brefl w3) (.cells #[.bool true, .bool false, .bool true] 4))) m4)
  clear BC HT3 HB3
  generalize (w3.alloc (.cells #[.bool true, .bool false, .bool true] 4)).drewN m4 = w5 at HB5 ⊢
  go_wp2_with fail
  go_ret
  exact ⟨rfl, bcall hb2 HB5.out⟩
set_option maxHeartbeats 4000000 in
theorem law_good (s : Int) (p : Option Addr) (n cap : Nat) (l : List Int) (w : World) (hn : n = l.length) (hi : Ints w p cap l) (hc : code s 0 l = 0) : Law s p n cap w := by
  have LY := Lib.hid (leak_yes s 0 p n cap l w hn hi hc)
  have L1 := Lib.hid (fun W : World => leak_yes 2 0 (some ⟨W.heap.size, 0, none⟩) 3 3 [0, 1, 2] (W.alloc (.cells #[.int .i64 0, .int .i64 1, .int .i64 2] 3)) rfl (lit_ints W [0, 1, 2] (by decide) (by decide)) (by decide))
  rw [show mays 2 0 [0, 1, 2] = [true, false, true] by decide] at L1
  have BB := Lib.hid (fun (W : World) b (h : Tru W (some ⟨b, 0, none⟩) 3 [true, false, true]) => bools_any (some ⟨b, 0, none⟩) (some ⟨W.heap.size, 0, none⟩) 3 3 3 3 [true, false, true] [true, false, true] (W.alloc (.cells #[.bool true, .bool false, .bool true] 4)) rfl rfl (h.below (balloc (brefl _) _)) (lit_truth W [true, false, true] _ (by decide)) true rfl)
  have hlen := hi.len_le
  rw [← hn] at hlen
  obtain ⟨hr, hl200, hbad⟩ := code_zero hc
  rw [← hn] at hl200
  have HI := Lib.hid hi
  have HN := Lib.hid hn
  have HR := Lib.hid hr
  have HD := Lib.hid hbad
  obtain ⟨⟨s1, s2⟩, x1, x2⟩ := hr
  clear hi hn hc hbad
  unfold Law
  go_enter Try.func6, Try.ntmps6
  go_wp2_with fail
  refine LY.out.mono ?_; rintro e w2 ⟨rfl, ho, hb2⟩
  have HB2 := Lib.hid hb2
  have HT := Lib.hid ho.tru.2
  have HI2 := Lib.hid (HI.out.below HB2.out)
  clear HI ho hb2 LY
  generalize w.heap.size = b at HT ⊢
  have HT1 := Lib.hid (fun W (hb : Below w2.heap.size w2 W) (k : Nat) (hk : k < n) => by
    have h1 := (HT.out.below hb).one k _ (mays_get (by rw [← HN.out]; exact hk))
    rw [Nat.zero_add] at h1
    exact h1)
  go_wp2_with fail
  refine (L1.out _).mono ?_; rintro e w3 ⟨rfl, ho3, hb3⟩
  have HB3 : Hid (Below w2.heap.size w2 w3) := Lib.hid ((balloc (brefl w2) _).trans (hb3.mono (by simp)))
  have HT3 := Lib.hid ho3.tru.2
  clear ho3 hb3 L1
  generalize (w2.alloc (.cells #[.int .i64 0, .int .i64 1, .int .i64 2] 3)).heap.size = b3 at HT3 ⊢
  have BC := Lib.hid (BB.out w3 b3 HT3.out)
  clear BB
  go_wp2_with fail
  refine BC.out.mono ?_; rintro e w4 ⟨rfl, m4, rfl⟩
  have HB5 := Lib.hid (bdrewN (bcall HB3.out (balloc (brefl w3) (.cells #[.bool true, .bool false, .bool true] 4))) m4)
  clear BC HT3 HB3
  generalize (w3.alloc (.cells #[.bool true, .bool false, .bool true] 4)).drewN m4 = w5 at HB5 ⊢
  have t9 : ((n : Int) != (n : Int)) = false := by simp
  have HP0 := Lib.hid (prev_zero (s := s) (l := l))
  go_wp2_with fail
  go_loopw [9, 10] (fun pv iv wr => ∃ (k : Nat) (P : Int), k ≤ n ∧ iv = .int .i64 (k : Int) ∧ pv = .int .i64 P ∧ -20 ≤ P ∧ P ≤ 1120 ∧ Hid (P = prev s l k) ∧ Hid (Below w2.heap.size w2 wr)) (fun _ i _ => n - (intOf i).toNat)
  case atStart => exact ⟨0, -s, Nat.zero_le _, rfl, by first | rfl | go_num, by omega, by omega, Lib.hid HP0.out.symm, HB5⟩
  case round =>
    obtain ⟨k, P, hk, rfl, rfl, hP1, hP2, HP, HB⟩ := hrel
    clear HB5 HP0
    by_cases hlt : k < n
    · have hkl : k < l.length := by rw [← HN.out]; exact hlt
      obtain ⟨b1, off, rfl, hbw, hcc⟩ := HI2.out.2.2.2 (by omega)
      have HC := Lib.hid (fun W (hb : Below w2.heap.size w2 W) => (hb.cell (p := ⟨b1, off + k, none⟩) hbw).trans (hcc k hkl))
      have hf := fine_of HD.out hkl
      obtain ⟨⟨a1, a2⟩, _⟩ := hf
      have HTM := Lib.hid (show tm l k = l[k]?.getD 0 from rfl)
      rw [← HTM.out] at HC
      clear hcc hbw hkl HTM
      have hpm := prev_may (s := s) (l := l) (k := k)
      rw [← HP.out] at hpm
      have hpy := prev_yes (s := s) (l := l) (k := k)
      have hpn := prev_no (s := s) (l := l) (k := k)
      rw [← HP.out] at hpn
      have ct := HT1.out wr HB.out k hlt
      have ck := HC.out wr HB.out
      generalize tm l k = a at HC hpm hpy a1 a2 ck
      by_cases hm : s ≤ a - P
      · rw [decide_eq_true hm] at hpm
        rw [hpm] at ct hpy
        have HPY := Lib.hid (hpy rfl)
        have t5 : decide (s ≤ a - P) = true := decide_eq_true hm
        have ct2 := HT1.out (wr.drewN 1) (bdrewN HB.out 1) k hlt
        rw [hpm] at ct2
        clear hpm hpy hpn hm HP
        go_wp2_with fail
        go_region
        go_wp2_with fail
        go_roundw
        case rel => exact ⟨k + 1, a, by omega, by first | rfl | go_num, rfl, by omega, by omega, Lib.hid HPY.out.symm, Lib.hid (bdrewN HB.out 1)⟩
        case measure => simp [intOf]; omega
      · rw [decide_eq_false hm] at hpm
        rw [hpm] at ct hpn
        have HPN := Lib.hid (hpn rfl)
        have t5 : decide (s ≤ a - P) = false := decide_eq_false hm
        clear hpm hpy hpn hm HP
        go_wp2_with fail
        go_region
        go_wp2_with fail
        go_roundw
        case rel => exact ⟨k + 1, P, by omega, by first | rfl | go_num, rfl, by omega, by omega, Lib.hid HPN.out.symm, Lib.hid (bdrewN HB.out 1)⟩
        case measure => simp [intOf]; omega
    · obtain rfl : k = n := by omega
      go_wp2_with fail
      go_ret
      exact ⟨rfl, bcall HB2.out HB.out⟩

theorem reads : Try.f6.params.toList.all (fun t => Try.prog.readableRec t && decide (t < Try.prog.types.size)) = true := by kernel_rfl

theorem contract (H : Type) (enc : TypeId × Value → H) (W : World) (base : Nat) (args : Array Value) (ds gs : List (DataW H)) (before : List MemPlace)
    (hval : ∀ (j : Nat) t v, Try.f6.params[j]? = some t → args[j]? = some v → Value.okWide Try.prog W .any base t v)
    (hW : DataW.Whole enc Try.prog Try.f6.params.toList Rows.topGatesSpec.vars false W args.toList ds gs before) :
    Calls Try.prog 6 args W fun e W' => ∃ v, e = .returned v ∧ Rows.topGatesSpec.post enc Try.prog Try.f6 false true false false W args v W' := by
  have hW' := hW
  obtain ⟨p, q, hA0, hV, rfl, hfz, hnd⟩ := hW
  have hA : DataW.TrodAll enc Try.prog W 0 (fun _ => true) true Try.f6.params.toList args.toList ds p := hA0
  have hlt := hA.lt
  rw [Try.params6] at hA hval
  obtain ⟨v0, vs0, d0, ds0, p0, q0, hargs, rfl, rfl, h0, r0⟩ := trodAll_cons hA
  obtain ⟨v1, vs1, d1, ds1, p1, q1, hvs1, rfl, rfl, h1, r1⟩ := trodAll_cons r0
  obtain ⟨hvsn, rfl, rfl⟩ := trodAll_nil r1
  simp only [hvsn, hvs1] at hargs
  obtain rfl : args = #[v0, v1] := by cases args; simp_all
  obtain ⟨rfl, rfl⟩ := trodVars_none hV
  clear hA0
  obtain ⟨a0, rfl, rfl, rfl, w0⟩ := open_int Try.underlying3 (hval 0 3 v0 rfl rfl) h0
  have b0 := bounds_int w0
  obtain ⟨p1a, cap1, l1, rfl, i1⟩ := open_intsl Try.underlying22 Try.underlying3 (by kernel_rfl) (hval 1 22 v1 rfl rfl) h1 (fun x hx => hlt x (by simp [hx]))
  exact law_post 4 laid reads rfl Try.underlying4 rfl hW' ⟨rfl, rfl, rfl⟩ (by
    by_cases h : code a0 0 l1 = 0
    · exact law_good a0 p1a l1.length cap1 l1 W rfl i1 h
    · exact law_bad a0 p1a l1.length cap1 l1 W rfl i1 _ rfl h)

set_option maxRecDepth 100000 in
theorem lifted (os : Os) (started : os.Started) (H : Type) (enc : TypeId × Value → H) :
    ReturnsInHanded {} Try.checked os 6 .any (Rows.topGatesSpec.pre6 enc Try.prog Try.f6 Rows.topGatesRow.domain false) (Rows.topGatesSpec.post enc Try.prog Try.f6 false true false false) := by
  refine returnsInHanded_of_change (C := Try.checked) own started (by kernel_rfl) Try.func6
    (ChangeSpec.witness6 (enc := enc) (C := Try.checked) false ⟨#[], #[.int .i64 0, .slice none 0 0], []⟩ 8 (by kernel_rfl) (by kernel_rfl) (by kernel_rfl) (by kernel_rfl)) ?_
  intro W base args ds gs before hval hW _ _
  exact contract H enc W base args ds gs before hval hW

theorem proved : Rows.TopGatesSaid :=
  OpenClaim.holds_of_wide 6 Try.f6 rfl rfl rfl rfl rfl rfl rfl ⟨rfl, rfl, rfl, rfl, rfl⟩ rfl rfl rfl rfl rfl (by kernel_rfl) Try.func6 (by kernel_rfl)
    (of_decide_eq_true (by kernel_rfl)) (by unfold Func.isWrapper; first | (rw [if_pos (by decide +kernel)]; kernel_rfl) | (rw [if_neg (by decide +kernel)]; exact ⟨rfl, rfl⟩))
    (fun os started H enc _ => lifted os started H enc)
end Go.Proofs.Ytlnnejgahiiknaa.TopGatesL
