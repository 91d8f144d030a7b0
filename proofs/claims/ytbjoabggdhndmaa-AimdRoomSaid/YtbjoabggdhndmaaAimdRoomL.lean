/- From no more than the room and one for each flow, the flows never have more than that, and otherwise no more than at the start: the law returns true for every input. No condition. -/
import Derived.Test.YtbjoabggdhndmaaAimdLaw
import Derived.Test.YtbjoabggdhndmaaSumS
namespace Go.Proofs.Ytbjoabggdhndmaa.aimdRoomP
open Go.ChangeShapes Go.WideShapes Go.ChangeAt Go.RowKit
open Go.Proofs.Ytbjoabggdhndmaa.Kit Go.Proofs.Ytbjoabggdhndmaa.App Go.Proofs.Ytbjoabggdhndmaa.Err Go.Proofs.Ytbjoabggdhndmaa.AimdMath Go.Proofs.Ytbjoabggdhndmaa.Aimd
set_option linter.unusedVariables false
set_option maxRecDepth 20000

abbrev Law (p : Option Addr) (cap : Nat) (l : List Int) (room s : Int) (w : World) : Prop := Calls Try.prog 4 #[.slice p l.length cap, .int .i64 room, .int .i64 s] w fun e w' => e = .returned (.bool true) ∧ Below w.heap.size w w'

set_option maxHeartbeats 1000000 in
theorem law_bad (p : Option Addr) (cap : Nat) (l : List Int) (room s : Int) (w : World) (hi : Ints w p cap l) (h0 : badR l room s ≠ 0) : Law p cap l room s w := by
  obtain ⟨c, hc⟩ : ∃ c, c = badR l room s := ⟨_, rfl⟩
  rw [← hc] at h0
  obtain ⟨n, hn⟩ : ∃ n, n = l.length := ⟨_, rfl⟩
  have hlen := hi.len_le
  unfold Law
  rw [← hn] at hlen ⊢
  have FA := Lib.hid (fact_any w)
  have RB := Lib.hid (fun W (hb : Below w.heap.size w W) => run_bad p cap n room s l W hn (hi.below hb) c hc h0)
  clear hi hc h0 hn
  go_enter Try.func4, Try.ntmps4
  go_wp2_with fail
  refine FA.out.mono ?_; rintro e w1 ⟨rfl, hb1⟩
  go_wp2_with fail
  refine (RB.out _ hb1).mono ?_; rintro e w2 ⟨rfl, rfl⟩
  go_wp2_with fail
  go_ret
  exact ⟨rfl, hb1⟩
set_option maxHeartbeats 1000000 in
theorem law_good (p : Option Addr) (cap : Nat) (l : List Int) (room : Int) (s : Nat) (w : World) (hi : Ints w p cap l) (h0 : bad l room = 0) (hs : s ≤ 1000) : Law p cap l room s w := by
  obtain ⟨h1, h5, hf, hr1, hr2⟩ := bad_zero.1 h0
  obtain ⟨n, hn⟩ : ∃ n, n = l.length := ⟨_, rfl⟩
  have hst := stay (room := room) (k := s) (fits_all hf)
  have hin := rates_in (room := room) (k := s) (fits_all hf)
  have hrl : (rates room l s).length = n := by rw [rates_len, hn]
  unfold Law
  rw [← hn] at h1 h5 hst ⊢
  have FA := Lib.hid (fact_any w)
  have RG := Lib.hid (fun W (hb : Below w.heap.size w W) => run_good p cap n s room l W hn (hi.below hb) h0 hs)
  have SL := Lib.hid (fun W (hb : Below w.heap.size w W) => sums_any p cap n l W hn (hi.below hb) (by omega) (fun x hx => by have := fits_all hf x hx; omega))
  have SM := Lib.hid (fun W p' c' (h : Ints W p' c' (rates room l s)) => sums_any p' c' n (rates room l s) W hrl.symm h (by omega) (fun x hx => by have := hin x hx; omega))
  have hlb := sum_bound (l := l) (B := 10000) (fun x hx => by have := fits_all hf x hx; omega)
  rw [← hn] at hlb
  have HRL := Lib.hid hrl
  clear hi h0 hn hf hin hrl
  generalize rates room l s = m at RG SM HRL hst
  generalize (H room l s : Int) = hv at RG
  go_enter Try.func4, Try.ntmps4
  go_wp2_with fail
  refine FA.out.mono ?_; rintro e w1 ⟨rfl, hb1⟩
  go_wp2_with fail
  refine (RG.out _ hb1).mono ?_; rintro e w2 ⟨⟨v, rfl, ho⟩, hb2⟩
  have hB2 := bcall hb1 hb2
  obtain ⟨vp, vc, rfl, hvi⟩ := ho.form
  rw [HRL.out]
  have HV := Lib.hid hvi
  clear ho hb2 hvi hb1 FA RG
  have hw := wrap_in (n := room + (n : Int)) (by omega)
  go_wp2_with fail
  refine (SL.out _ hB2).mono ?_; rintro e w3 ⟨rfl, rfl⟩
  obtain ⟨L, hL⟩ : ∃ L, l.sum = L := ⟨_, rfl⟩
  obtain ⟨M, hM⟩ : ∃ M, m.sum = M := ⟨_, rfl⟩
  rw [hL] at SL hst hlb
  rw [hM] at SM hst
  rw [hL]
  clear hL hM
  by_cases hov : room + (n : Int) < L
  · have t1 : decide (L > room + (n : Int)) = true := decide_eq_true hov
    have t2 : decide (M ≤ L) = true := decide_eq_true (by omega)
    go_wp2_with fail
    refine (SM.out _ _ _ HV.out).mono ?_; rintro e w4 ⟨rfl, rfl⟩
    go_wp2_with fail
    refine (SL.out _ hB2).mono ?_; rintro e w5 ⟨rfl, rfl⟩
    go_wp2_with fail
    go_ret
    exact ⟨by first | rfl | rw [t2], hB2⟩
  · have t1 : decide (L > room + (n : Int)) = false := decide_eq_false hov
    have t2 : decide (M ≤ room + (n : Int)) = true := decide_eq_true (by omega)
    go_wp2_with fail
    refine (SM.out _ _ _ HV.out).mono ?_; rintro e w4 ⟨rfl, rfl⟩
    go_wp2_with fail
    go_ret
    exact ⟨by first | rfl | rw [t2], hB2⟩

theorem reads : Try.f4.params.toList.all (fun t => Try.prog.readableRec t && decide (t < Try.prog.types.size)) = true := by kernel_rfl

theorem contract (H : Type) (enc : TypeId × Value → H) (W : World) (base : Nat) (args : Array Value) (ds gs : List (DataW H)) (before : List MemPlace)
    (hval : ∀ (j : Nat) t v, Try.f4.params[j]? = some t → args[j]? = some v → Value.okWide Try.prog W .any base t v)
    (hW : DataW.Whole enc Try.prog Try.f4.params.toList Rows.aimdRoomSpec.vars false W args.toList ds gs before) :
    Calls Try.prog 4 args W fun e W' => ∃ v, e = .returned v ∧ Rows.aimdRoomSpec.post enc Try.prog Try.f4 false true false false W args v W' := by
  have hW' := hW
  obtain ⟨p, q, hA0, hV, rfl, hfz, hnd⟩ := hW
  have hA : DataW.TrodAll enc Try.prog W 0 (fun _ => true) true Try.f4.params.toList args.toList ds p := hA0
  have hlt := hA.lt
  rw [Try.params4] at hA hval
  obtain ⟨v0, vs0, d0, ds0, p0, q0, hargs, rfl, rfl, h0, r0⟩ := trodAll_cons hA
  obtain ⟨v1, vs1, d1, ds1, p1, q1, hvs1, rfl, rfl, h1, r1⟩ := trodAll_cons r0
  obtain ⟨v2, vs2, d2, ds2, p2, q2, hvs2, rfl, rfl, h2, r2⟩ := trodAll_cons r1
  obtain ⟨hvsn, rfl, rfl⟩ := trodAll_nil r2
  simp only [hvsn, hvs2, hvs1] at hargs
  obtain rfl : args = #[v0, v1, v2] := by cases args; simp_all
  obtain ⟨rfl, rfl⟩ := trodVars_none hV
  clear hA0
  obtain ⟨p0a, cap0, l0, rfl, i0⟩ := open_intsl Try.underlying22 Try.underlying3 (by kernel_rfl) (hval 0 22 v0 rfl rfl) h0 (fun x hx => hlt x (by simp [hx]))
  obtain ⟨a1, rfl, rfl, rfl, w1⟩ := open_int Try.underlying3 (hval 1 3 v1 rfl rfl) h1
  have b1 := bounds_int w1
  obtain ⟨a2, rfl, rfl, rfl, w2⟩ := open_int Try.underlying3 (hval 2 3 v2 rfl rfl) h2
  have b2 := bounds_int w2
  exact law_post 4 laid reads rfl Try.underlying4 rfl hW' ⟨rfl, rfl, rfl⟩ (by
    by_cases h : badR l0 a1 a2 = 0
    · obtain ⟨h1, h2, h3⟩ := badR_zero.1 h
      obtain ⟨s, rfl⟩ : ∃ k : Nat, a2 = k := ⟨a2.toNat, by omega⟩
      exact law_good p0a cap0 l0 a1 s W i0 h1 (by omega)
    · exact law_bad p0a cap0 l0 a1 a2 W i0 h)

set_option maxRecDepth 100000 in
theorem lifted (os : Os) (started : os.Started) (H : Type) (enc : TypeId × Value → H) :
    ReturnsInHanded {} Try.checked os 4 .any (Rows.aimdRoomSpec.pre6 enc Try.prog Try.f4 Rows.aimdRoomRow.domain false) (Rows.aimdRoomSpec.post enc Try.prog Try.f4 false true false false) := by
  refine returnsInHanded_of_change (C := Try.checked) own started (by kernel_rfl) Try.func4
    (ChangeSpec.witness6 (enc := enc) (C := Try.checked) false ⟨#[], #[.slice none 0 0, .int .i64 0, .int .i64 0], []⟩ 8 (by kernel_rfl) (by kernel_rfl) (by kernel_rfl) (by kernel_rfl)) ?_
  intro W base args ds gs before hval hW _ _
  exact contract H enc W base args ds gs before hval hW

theorem proved : Rows.AimdRoomSaid :=
  OpenClaim.holds_of_wide 4 Try.f4 rfl rfl rfl rfl rfl rfl rfl ⟨rfl, rfl, rfl, rfl, rfl⟩ rfl rfl rfl rfl rfl (by kernel_rfl) Try.func4 (by kernel_rfl)
    (of_decide_eq_true (by kernel_rfl)) (by unfold Func.isWrapper; first | (rw [if_pos (by decide +kernel)]; kernel_rfl) | (rw [if_neg (by decide +kernel)]; exact ⟨rfl, rfl⟩))
    (fun os started H enc _ => lifted os started H enc)
end Go.Proofs.Ytbjoabggdhndmaa.aimdRoomP
