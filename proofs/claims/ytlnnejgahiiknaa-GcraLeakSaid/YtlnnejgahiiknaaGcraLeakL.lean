/- By times, and by how full a bucket is that leaks, the same ones may come: the law returns true for every input. No condition. -/
import Derived.Test.YtlnnejgahiiknaaGcraFact
namespace Go.Proofs.Ytlnnejgahiiknaa.GcraLeakL
open Go.ChangeShapes Go.WideShapes Go.ChangeAt Go.RowKit Go.Proofs.Ytlnnejgahiiknaa.Kit Go.Proofs.Ytlnnejgahiiknaa.App Go.Proofs.Ytlnnejgahiiknaa.Err Go.Proofs.Ytlnnejgahiiknaa.GcraMath Go.Proofs.Ytlnnejgahiiknaa.Gcra Go.Proofs.Ytlnnejgahiiknaa.Truth
set_option linter.unusedVariables false
set_option maxRecDepth 20000
set_option maxHeartbeats 1000000

abbrev Law (s x : Int) (p : Option Addr) (n cap : Nat) (w : World) : Prop := Calls Try.prog 3 #[.int .i64 s, .int .i64 x, .slice p n cap] w fun e w' => e = .returned (.bool true) ∧ Below w.heap.size w w'
theorem law_bad (s x : Int) (p : Option Addr) (n cap : Nat) (l : List Int) (w : World) (hn : n = l.length) (hi : Ints w p cap l) (c : Int) (hc : code s x l = c) (h0 : c ≠ 0) : Law s x p n cap w := by
  have FA := Lib.hid (fact_any w)
  have LN := Lib.hid (fun W (hb : Below w.heap.size w W) => leak_no s x p n cap l W hn (hi.below hb) c hc h0)
  have hlen := hi.len_le
  rw [← hn] at hlen
  unfold Law
  by_cases hr : Right s x
  · have NW := Lib.hid (fun W => new_good s x W hr)
    clear hi hn hc h0 hr
    go_enter Try.func3, Try.ntmps3
    go_wp2_with fail
    refine FA.out.mono ?_; rintro e w1 ⟨rfl, hb1⟩
    go_wp2_with fail
    refine (LN.out _ hb1).mono ?_; rintro e w2 ⟨rfl, hb2⟩
    have hb3 := bcall hb1 hb2
    clear hb1 hb2
    go_wp2_with fail
    refine (NW.out _).mono ?_; rintro e w3 ⟨rfl, _, hb4⟩
    go_wp2_with fail
    go_ret
    exact ⟨rfl, bcall hb3 hb4⟩
  · have NW := Lib.hid (fun W => new_bad s x W hr)
    rw [er_1] at NW
    clear hi hn hc h0 hr
    go_enter Try.func3, Try.ntmps3
    go_wp2_with fail
    refine FA.out.mono ?_; rintro e w1 ⟨rfl, hb1⟩
    go_wp2_with fail
    refine (LN.out _ hb1).mono ?_; rintro e w2 ⟨rfl, hb2⟩
    have hb3 := bcall hb1 hb2
    clear hb1 hb2
    go_wp2_with fail
    refine (NW.out _).mono ?_; rintro e w3 ⟨rfl, rfl⟩
    go_wp2_with fail
    go_ret
    exact ⟨rfl, hb3⟩
theorem law_good (s x : Int) (p : Option Addr) (n cap : Nat) (l : List Int) (w : World) (hn : n = l.length) (hi : Ints w p cap l) (hc : code s x l = 0) : Law s x p n cap w := by
  have FA := Lib.hid (fact_any w)
  have LY := Lib.hid (fun W (hb : Below w.heap.size w W) => leak_yes s x p n cap l W hn (hi.below hb) hc)
  have hlen := hi.len_le
  rw [← hn] at hlen
  obtain ⟨hr, hl200, hbad⟩ := code_zero hc
  rw [← hn] at hl200
  have HI := Lib.hid hi
  have HN := Lib.hid hn
  have HR := Lib.hid hr
  have HD := Lib.hid hbad
  obtain ⟨⟨s1, s2⟩, x1, x2⟩ := hr
  clear hi hn hc hbad
  unfold Law
  have NW := Lib.hid (fun W => new_good s x W HR.out)
  go_enter Try.func3, Try.ntmps3
  go_wp2_with fail
  refine FA.out.mono ?_; rintro e w1 ⟨rfl, hb1⟩
  clear FA
  go_wp2_with fail
  refine (LY.out _ hb1).mono ?_; rintro e w2 ⟨rfl, ho, hb2⟩
  have HB2 := Lib.hid (bcall hb1 hb2)
  have HT := Lib.hid ho.tru.2
  have HI2 := Lib.hid (HI.out.below HB2.out)
  clear HI ho hb1 hb2 LY
  generalize w1.heap.size = b at HT ⊢
  have HT1 := Lib.hid (fun W (hb : Below w2.heap.size w2 W) (k : Nat) (hk : k < n) => by
    have h1 := (HT.out.below hb).one k _ (mays_get (by rw [← HN.out]; exact hk))
    rw [Nat.zero_add] at h1
    exact h1)
  go_wp2_with fail
  refine (NW.out _).mono ?_; rintro e w3 ⟨rfl, hG3, hb3⟩
  obtain ⟨g, hg⟩ : ∃ g, w2.heap.size = g := ⟨_, rfl⟩
  have HG := Lib.hid (Nat.le_of_eq hg)
  rw [hg] at hG3 ⊢
  have HG0 := Lib.hid (show Gat w3 g s x (tat s x l 0) (lst l 0) from hG3)
  have HB0 := Lib.hid hb3
  have t9 : ((n : Int) != (n : Int)) = false := by simp
  clear hG3 hb3 NW hg
  go_wp2_with fail
  go_loopw [12] (fun iv wr => ∃ k : Nat, k ≤ n ∧ iv = .int .i64 (k : Int) ∧ Hid (Gat wr g s x (tat s x l k) (lst l k)) ∧ Hid (Below w2.heap.size w2 wr)) (fun i _ => n - (intOf i).toNat)
  case atStart => exact ⟨0, Nat.zero_le _, rfl, HG0, HB0⟩
  case round =>
    obtain ⟨k, hk, rfl, HW, HB⟩ := hrel
    clear HG0 HB0
    by_cases hlt : k < n
    · have hkl : k < l.length := by rw [← HN.out]; exact hlt
      obtain ⟨b1, off, rfl, hbw, hcc⟩ := HI2.out.2.2.2 (by omega)
      have hck := (HB.out.cell (p := ⟨b1, off + k, none⟩) hbw).trans (hcc k hkl)
      have hf := fine_of HD.out hkl
      have hO := ok_tat HR.out HD.out k (by omega)
      have C := Lib.hid (come_any g s x (tat s x l k) (lst l k) (tm l k) wr HW.out hO hf.1 (by omega))
      have HK := Lib.hid hkl
      clear hcc hbw hkl hO
      obtain ⟨a, ha⟩ : ∃ a, l[k]?.getD 0 = a := ⟨_, rfl⟩
      have HA := Lib.hid (show tm l k = a from ha)
      have HM : Hid (decide (tat s x l k - x ≤ a) = mayAt s x l k) := Lib.hid (by unfold mayAt; rw [HA.out])
      rw [ha] at hck
      rw [HA.out, HM.out] at C
      clear ha hf HW HM
      go_wp2_with fail
      refine C.out.mono ?_; rintro e w4 ⟨rfl, hG4, hg4⟩
      have HG4 := Lib.hid (show Gat w4 g s x (tat s x l (k + 1)) (lst l (k + 1)) by
        show Gat w4 g s x (nxt s x (tat s x l k) (tm l k)) (tm l k)
        rw [HA.out]; exact hG4)
      have HB4 := Lib.hid (gbelow HB.out (Nat.le_refl _) hg4 HG.out)
      clear hG4 hg4 hck C HB
      have ht := HT1.out w4 HB4.out k hlt
      generalize mayAt s x l k = B at ht ⊢
      have t5 : (B != B) = false := by simp
      have t6 : (B == B) = true := by simp
      go_wp2_with fail
      go_roundw
      case rel => exact ⟨k + 1, by omega, by first | rfl | go_num, HG4, HB4⟩
      case measure => simp [intOf]; omega
    · obtain rfl : k = n := by omega
      go_wp2_with fail
      go_ret
      exact ⟨rfl, bcall HB2.out HB.out⟩

theorem reads : Try.f3.params.toList.all (fun t => Try.prog.readableRec t && decide (t < Try.prog.types.size)) = true := by kernel_rfl

theorem contract (H : Type) (enc : TypeId × Value → H) (W : World) (base : Nat) (args : Array Value) (ds gs : List (DataW H)) (before : List MemPlace)
    (hval : ∀ (j : Nat) t v, Try.f3.params[j]? = some t → args[j]? = some v → Value.okWide Try.prog W .any base t v)
    (hW : DataW.Whole enc Try.prog Try.f3.params.toList Rows.gcraLeakSpec.vars false W args.toList ds gs before) :
    Calls Try.prog 3 args W fun e W' => ∃ v, e = .returned v ∧ Rows.gcraLeakSpec.post enc Try.prog Try.f3 false true false false W args v W' := by
  have hW' := hW
  obtain ⟨p, q, hA0, hV, rfl, hfz, hnd⟩ := hW
  have hA : DataW.TrodAll enc Try.prog W 0 (fun _ => true) true Try.f3.params.toList args.toList ds p := hA0
  have hlt := hA.lt
  rw [Try.params3] at hA hval
  obtain ⟨v0, vs0, d0, ds0, p0, q0, hargs, rfl, rfl, h0, r0⟩ := trodAll_cons hA
  obtain ⟨v1, vs1, d1, ds1, p1, q1, hvs1, rfl, rfl, h1, r1⟩ := trodAll_cons r0
  obtain ⟨v2, vs2, d2, ds2, p2, q2, hvs2, rfl, rfl, h2, r2⟩ := trodAll_cons r1
  obtain ⟨hvsn, rfl, rfl⟩ := trodAll_nil r2
  simp only [hvsn, hvs2, hvs1] at hargs
  obtain rfl : args = #[v0, v1, v2] := by cases args; simp_all
  obtain ⟨rfl, rfl⟩ := trodVars_none hV
  clear hA0
  obtain ⟨a0, rfl, rfl, rfl, w0⟩ := open_int Try.underlying3 (hval 0 3 v0 rfl rfl) h0
  have b0 := bounds_int w0
  obtain ⟨a1, rfl, rfl, rfl, w1⟩ := open_int Try.underlying3 (hval 1 3 v1 rfl rfl) h1
  have b1 := bounds_int w1
  obtain ⟨p2a, cap2, l2, rfl, i2⟩ := open_intsl Try.underlying22 Try.underlying3 (by kernel_rfl) (hval 2 22 v2 rfl rfl) h2 (fun x hx => hlt x (by simp [hx]))
  exact law_post 4 laid reads rfl Try.underlying4 rfl hW' ⟨rfl, rfl, rfl⟩ (by
    by_cases h : code a0 a1 l2 = 0
    · exact law_good a0 a1 p2a l2.length cap2 l2 W rfl i2 h
    · exact law_bad a0 a1 p2a l2.length cap2 l2 W rfl i2 _ rfl h)

set_option maxRecDepth 100000 in
theorem lifted (os : Os) (started : os.Started) (H : Type) (enc : TypeId × Value → H) :
    ReturnsInHanded {} Try.checked os 3 .any (Rows.gcraLeakSpec.pre6 enc Try.prog Try.f3 Rows.gcraLeakRow.domain false) (Rows.gcraLeakSpec.post enc Try.prog Try.f3 false true false false) := by
  refine returnsInHanded_of_change (C := Try.checked) own started (by kernel_rfl) Try.func3
    (ChangeSpec.witness6 (enc := enc) (C := Try.checked) false ⟨#[], #[.int .i64 0, .int .i64 0, .slice none 0 0], []⟩ 8 (by kernel_rfl) (by kernel_rfl) (by kernel_rfl) (by kernel_rfl)) ?_
  intro W base args ds gs before hval hW _ _
  exact contract H enc W base args ds gs before hval hW

theorem proved : Rows.GcraLeakSaid :=
  OpenClaim.holds_of_wide 3 Try.f3 rfl rfl rfl rfl rfl rfl rfl ⟨rfl, rfl, rfl, rfl, rfl⟩ rfl rfl rfl rfl rfl (by kernel_rfl) Try.func3 (by kernel_rfl)
    (of_decide_eq_true (by kernel_rfl)) (by unfold Func.isWrapper; first | (rw [if_pos (by decide +kernel)]; kernel_rfl) | (rw [if_neg (by decide +kernel)]; exact ⟨rfl, rfl⟩))
    (fun os started H enc _ => lifted os started H enc)
end Go.Proofs.Ytlnnejgahiiknaa.GcraLeakL
