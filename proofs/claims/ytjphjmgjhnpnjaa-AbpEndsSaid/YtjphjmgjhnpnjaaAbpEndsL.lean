/- As many elements are acknowledged as packets whose answers are not lost, if there are so many: the law returns true for every input. No condition. -/
import Derived.Test.YtjphjmgjhnpnjaaAbpLaw
namespace Go.Proofs.Ytjphjmgjhnpnjaa.abpEndsP
open Go.ChangeShapes Go.WideShapes Go.ChangeAt Go.RowKit
open Go.Proofs.Ytjphjmgjhnpnjaa.Kit Go.Proofs.Ytjphjmgjhnpnjaa.App Go.Proofs.Ytjphjmgjhnpnjaa.Cells Go.Proofs.Ytjphjmgjhnpnjaa.Fate Go.Proofs.Ytjphjmgjhnpnjaa.AbpMath Go.Proofs.Ytjphjmgjhnpnjaa.Abp
set_option linter.unusedVariables false
set_option maxRecDepth 20000

abbrev Law (p q : Option Addr) (cap cq : Nat) (l : List Int) (fs : List Fat) (w : World) : Prop := Calls Try.prog 4 #[.slice p l.length cap, .slice q fs.length cq] w fun e w' => e = .returned (.bool true) ∧ Below w.heap.size w w'
set_option maxHeartbeats 1000000 in
theorem law_bad (p q : Option Addr) (cap cq : Nat) (l : List Int) (fs : List Fat) (w : World) (hi : Ints w p cap l) (hf : CI lay w q cq fs) (h0 : bad l fs.length ≠ 0) : Law p q cap cq l fs w := by
  obtain ⟨c, hc⟩ : ∃ c, c = bad l fs.length := ⟨_, rfl⟩
  rw [← hc] at h0
  have FA := Lib.hid (fact_any w)
  have RB := Lib.hid (fun W (hb : Below w.heap.size w W) => run_bad p q cap cq l.length fs.length l W rfl (hi.below hb) hf.len_le c hc h0)
  rw [er_ne h0] at RB
  clear hi hf hc h0
  unfold Law
  go_enter Try.func4, Try.ntmps4
  go_wp2_with fail
  refine FA.out.mono ?_; rintro e w1 ⟨rfl, hb1⟩
  go_wp2_with fail
  refine (RB.out _ hb1).mono ?_; rintro e w2 ⟨rfl, rfl⟩
  go_wp2_with fail
  go_ret
  exact ⟨rfl, hb1⟩
set_option maxHeartbeats 1000000 in
theorem law_good (p q : Option Addr) (cap cq : Nat) (l : List Int) (fs : List Fat) (w : World) (hi : Ints w p cap l) (hf : CI lay w q cq fs) (h0 : bad l fs.length = 0) : Law p q cap cq l fs w := by
  obtain ⟨n, hn⟩ : ∃ n, n = l.length := ⟨_, rfl⟩
  obtain ⟨m, hm⟩ : ∃ m, m = fs.length := ⟨_, rfl⟩
  obtain ⟨hl20, hm200, _⟩ := (bad_zero l fs.length).1 h0
  unfold Law
  rw [← hm] at h0 hm200 ⊢
  rw [← hn] at hl20 ⊢
  obtain ⟨K, G, hr⟩ : ∃ K G, (K, G) = AbpMath.run n fs 0 0 := ⟨_, _, rfl⟩
  have hbt := run_between n fs 0 0 (Nat.le_refl _) (by omega) (by omega) (by omega)
  have hfi := run_fines n fs 0 0 (by omega)
  rw [← hr] at hbt hfi
  obtain ⟨hKG, hGK, hKn, hGn⟩ := hbt
  dsimp only at hKG hGK hKn hGn hfi
  have FA := Lib.hid (fact_any w)
  have RG := Lib.hid (fun W (hb : Below w.heap.size w W) => run_good p q cap cq n m l fs W hn hm (hi.below hb) (hf.below hb) h0 K G hr)
  have HI := Lib.hid hi
  have HF := Lib.hid hf
  have HN := Lib.hid hn
  have HM := Lib.hid hm
  have HFI := Lib.hid hfi
  have HTL := Lib.hid (show (l.take G).length = G by rw [List.length_take, ← hn]; omega)
  clear hi hf hn hm h0 hr hfi
  go_enter Try.func4, Try.ntmps4
  go_wp2_with fail
  refine FA.out.mono ?_; rintro e w1 ⟨rfl, hb1⟩
  go_wp2_with fail
  refine (RG.out _ hb1).mono ?_; rintro e w2 ⟨v, rfl, ho, hb2⟩
  have hB2 := bcall hb1 hb2
  obtain ⟨vp, vc, rfl, hvi⟩ := ho.form
  rw [HTL.out]
  have HV := Lib.hid hvi
  clear ho hb2 hvi hb1 FA RG
  go_wp2_with fail
  go_loopw [9, 10] (fun fv iv wr => ∃ i c : Nat, i ≤ m ∧ c ≤ i ∧ fv = .int .i64 c ∧ iv = .int .i64 i ∧ Hid (c = fine (fs.take i)) ∧ wr = w2) (fun _ iv _ => m - (intOf iv).toNat)
  case atStart => exact ⟨0, 0, Nat.zero_le _, Nat.zero_le _, rfl, rfl, Lib.hid (by simp [fine]), rfl⟩
  case round =>
    obtain ⟨i, c, him, hci, rfl, rfl, HC, rfl⟩ := hrel
    by_cases hlt : i < m
    · have hil : i < fs.length := by rw [← HM.out]; exact hlt
      obtain ⟨b, off, rfl, hbw, hcell⟩ := fate_at HF.out (by omega)
      obtain ⟨x, hx⟩ : ∃ x, fs[i]? = some x := ⟨_, List.getElem?_eq_getElem hil⟩
      obtain ⟨e1, e2⟩ := hcell wr hB2 i x hx
      have HT := Lib.hid (fine_take hx)
      clear hcell hx hil
      obtain ⟨x1, x2⟩ := x
      cases x1 with
      | true =>
        go_wp2_with fail
        go_roundw
        case rel => exact ⟨i + 1, c, by omega, by omega, rfl, by first | rfl | go_num, Lib.hid (by rw [HT.out, HC.out]; rfl), by first | trivial | rfl⟩
        case measure => simp [intOf]; omega
      | false =>
        cases x2 with
        | true =>
          go_wp2_with fail
          go_roundw
          case rel => exact ⟨i + 1, c, by omega, by omega, rfl, by first | rfl | go_num, Lib.hid (by rw [HT.out, HC.out]; rfl), by first | trivial | rfl⟩
          case measure => simp [intOf]; omega
        | false =>
          go_wp2_with fail
          go_roundw
          case rel => exact ⟨i + 1, c + 1, by omega, by omega, by first | rfl | go_num, by first | rfl | go_num, Lib.hid (by rw [HT.out, HC.out]; rfl), by first | trivial | rfl⟩
          case measure => simp [intOf]; omega
    · obtain rfl : i = m := by omega
      have hcf : c = fine fs := by
        rw [HC.out, List.take_of_length_le (by rw [← HM.out]; exact Nat.le_refl _)]
      have hK : K = min n c := by rw [HFI.out, hcf]; omega
      clear HC hcf HFI
      by_cases hKc : K = c
      · have t1 : ((K : Int) == (c : Int)) = true := by rw [hKc]; simp
        clear hK
        obtain rfl : K = c := hKc
        go_wp2_with fail
        go_ret
        exact ⟨rfl, hB2⟩
      · have t1 : ((K : Int) == (c : Int)) = false := by rw [beq_eq_false_iff_ne]; omega
        obtain rfl : K = n := by omega
        have t2 : decide ((c : Int) ≥ (K : Int)) = true := decide_eq_true (by omega)
        have hle := Lib.hid (show K ≤ c by omega)
        clear hKc hK
        go_wp2_with fail
        go_ret
        exact ⟨by show Ending.returned (.bool (decide (K ≤ c))) = _; rw [decide_eq_true hle.out], hB2⟩

theorem reads : Try.f4.params.toList.all (fun t => Try.prog.readableRec t && decide (t < Try.prog.types.size)) = true := by kernel_rfl

theorem contract (H : Type) (enc : TypeId × Value → H) (W : World) (base : Nat) (args : Array Value) (ds gs : List (DataW H)) (before : List MemPlace)
    (hval : ∀ (j : Nat) t v, Try.f4.params[j]? = some t → args[j]? = some v → Value.okWide Try.prog W .any base t v)
    (hW : DataW.Whole enc Try.prog Try.f4.params.toList Rows.abpEndsSpec.vars false W args.toList ds gs before) :
    Calls Try.prog 4 args W fun e W' => ∃ v, e = .returned v ∧ Rows.abpEndsSpec.post enc Try.prog Try.f4 false true false false W args v W' := by
  have hW' := hW
  obtain ⟨p, q, hA0, hV, rfl, hfz, hnd⟩ := hW
  have hA : DataW.TrodAll enc Try.prog W 0 (fun _ => true) true Try.f4.params.toList args.toList ds p := hA0
  have hlt := hA.lt
  rw [Try.params4] at hA hval
  obtain ⟨v0, vs0, d0, ds0, p0, q0, hargs, rfl, rfl, h0, r0⟩ := trodAll_cons hA
  obtain ⟨v1, vs1, d1, ds1, p1, q1, hvs1, rfl, rfl, h1, r1⟩ := trodAll_cons r0
  obtain ⟨hvsn, rfl, rfl⟩ := trodAll_nil r1
  simp only [hvsn, hvs1] at hargs
  obtain rfl : args = #[v0, v1] := by cases args; simp_all
  obtain ⟨rfl, rfl⟩ := trodVars_none hV
  clear hA0
  obtain ⟨p0a, cap0, l0, rfl, i0⟩ := open_intsl Try.underlying22 Try.underlying3 (by kernel_rfl) (hval 0 22 v0 rfl rfl) h0 (fun x hx => hlt x (by simp [hx]))
  obtain ⟨p1a, cap1, l1, rfl, i1, e1⟩ := Go.Proofs.Ytjphjmgjhnpnjaa.Fate.open_fates (hval 1 23 v1 rfl rfl) h1 (fun x hx => hlt x (by simp [hx]))
  exact law_post 4 laid reads rfl Try.underlying4 rfl hW' ⟨rfl, rfl, rfl⟩ (by
    by_cases h : Abp.bad l0 l1.length = 0
    · exact law_good p0a p1a cap0 cap1 l0 l1 W i0 i1 h
    · exact law_bad p0a p1a cap0 cap1 l0 l1 W i0 i1 h)

set_option maxRecDepth 100000 in
theorem lifted (os : Os) (started : os.Started) (H : Type) (enc : TypeId × Value → H) :
    ReturnsInHanded {} Try.checked os 4 .any (Rows.abpEndsSpec.pre6 enc Try.prog Try.f4 Rows.abpEndsRow.domain false) (Rows.abpEndsSpec.post enc Try.prog Try.f4 false true false false) := by
  refine returnsInHanded_of_change (C := Try.checked) own started (by kernel_rfl) Try.func4
    (ChangeSpec.witness6 (enc := enc) (C := Try.checked) false ⟨#[], #[.slice none 0 0, .slice none 0 0], []⟩ 8 (by kernel_rfl) (by kernel_rfl) (by kernel_rfl) (by kernel_rfl)) ?_
  intro W base args ds gs before hval hW _ _
  exact contract H enc W base args ds gs before hval hW

theorem proved : Rows.AbpEndsSaid :=
  OpenClaim.holds_of_wide 4 Try.f4 rfl rfl rfl rfl rfl rfl rfl ⟨rfl, rfl, rfl, rfl, rfl⟩ rfl rfl rfl rfl rfl (by kernel_rfl) Try.func4 (by kernel_rfl)
    (of_decide_eq_true (by kernel_rfl)) (by unfold Func.isWrapper; first | (rw [if_pos (by decide +kernel)]; kernel_rfl) | (rw [if_neg (by decide +kernel)]; exact ⟨rfl, rfl⟩))
    (fun os started H enc _ => lifted os started H enc)
end Go.Proofs.Ytjphjmgjhnpnjaa.abpEndsP
