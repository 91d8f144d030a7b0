/- RetryAlone: every frame is sent once, in a slot of its own: for every input. No condition. -/
import Derived.Test.YteggajhpjdidcaaRetryFact
import Derived.Test.YteggajhpjdidcaaIn4
import Derived.BigQuiet
import Derived.Deep.RegionWith
import Derived.Test.YteggajhpjdidcaaHasIn
import Derived.Test.YteggajhpjdidcaaSub
namespace Go.Proofs.Yteggajhpjdidcaa.RetryAloneL
open Go.ChangeShapes Go.WideShapes Go.ChangeAt Go.RowKit Go.Proofs.Yteggajhpjdidcaa.Kit Go.Proofs.Yteggajhpjdidcaa.App Go.Proofs.Yteggajhpjdidcaa.Err Go.Proofs.Yteggajhpjdidcaa.RetryMath Go.Proofs.Yteggajhpjdidcaa.Retry
set_option linter.unusedVariables false
set_option maxRecDepth 20000
set_option maxHeartbeats 4000000
theorem ints_take {w : World} {p : Option Addr} {cap : Nat} {l : List Int} (h : Ints w p cap l) (k : Nat) : Ints w p cap (l.take k) := by
  have hl : (l.take k).length ≤ l.length := by rw [List.length_take]; omega
  refine ⟨Nat.le_trans hl h.1, h.2.1, fun j => ?_, fun hn => ?_⟩
  · by_cases hj : j < k
    · rw [List.getElem?_take, if_pos hj]; exact h.2.2.1 j
    · rw [List.getElem?_take, if_neg hj]; exact wf_zero
  · obtain ⟨b, off, e, hb, hc⟩ := h.2.2.2 (by omega)
    refine ⟨b, off, e, hb, fun j hj => ?_⟩
    rw [hc j (by omega), List.getElem?_take, if_pos (by rw [List.length_take] at hj; omega)]
set_option maxHeartbeats 1000000 in
abbrev Law (x : Int) (p : Option Addr) (cap n : Nat) (w : World) : Prop := Calls Try.prog 3 #[.int .i64 x, .slice p n cap] w fun e w' => e = .returned (.bool true) ∧ Below w.heap.size w w'
theorem law_bad (x : Int) (p : Option Addr) (cap n : Nat) (l : List Int) (w : World) (hn : n = l.length) (hi : Ints w p cap l) (c : Int) (hc : code x l = c) (h0 : c ≠ 0) : Law x p cap n w := by
  have hlen := hi.len_le
  rw [← hn] at hlen
  have RB := Lib.hid (fun W (hW : Below w.heap.size w W) => run_bad x p cap n l W hn (hi.below hW) c hc h0)
  rw [er_ne h0] at RB
  clear hn hi hc h0
  have FA := Lib.hid (Retry.fact_any w)
  unfold Law
  go_enter Try.func3, Try.ntmps3
  go_wp2_with fail
  refine FA.out.mono ?_; rintro e w1 ⟨rfl, hb1⟩
  have HB1 := Lib.hid hb1
  clear FA hb1
  go_wp2_with fail
  refine (RB.out w1 HB1.out).mono ?_; rintro e w2 ⟨rfl, hb⟩
  have HB2 := Lib.hid (bcall HB1.out hb)
  clear RB HB1 hb
  go_wp2_with fail
  go_ret
  exact ⟨by first | rfl | simp, HB2.out⟩
theorem law_good (x : Nat) (p : Option Addr) (cap n : Nat) (l : List Int) (w : World) (hn : n = l.length) (hi : Ints w p cap l) (g : Retry.Good x l) : Law (x : Int) p cap n w := by
  have hlen := hi.len_le
  rw [← hn] at hlen
  have hx1 := g.lo
  have hx5 := g.up
  have hs1 := sent_len (n := x) (l := l)
  obtain ⟨m, hm⟩ : ∃ m, (sent x l).length = m := ⟨_, rfl⟩
  have RG := Lib.hid (fun W (hW : Below w.heap.size w W) => run_good x p cap n l W hn (hi.below hW) g m hm)
  have hlw : (who x l).length = m := by rw [who_len, hm]
  have hls : (Retry.slots x l).length = m := by rw [slots_len, hm]
  have WA := Lib.hid (fun k (hk : k < m) => who_at (n := x) (l := l) (k := k) (by rw [hm]; exact hk))
  have SA := Lib.hid (fun k (hk : k < m) => slot_at (n := x) (l := l) (k := k) (by rw [hm]; exact hk))
  have WO := Lib.hid (fun k y (hk : (who x l)[k]? = some y) => who_once hk)
  have SL := Lib.hid (fun j k y z (hjk : j < k) (hj : (Retry.slots x l)[j]? = some y) (hk : (Retry.slots x l)[k]? = some z) => slot_later hjk hj hk)
  have H1 := Lib.hid (fun (h : x = 1) => (show who x l = [0] ∧ Retry.slots x l = [0] ∧ m = 1 from by
    subst h
    have e1 := sent_one (l := l)
    refine ⟨by unfold who; rw [e1]; rfl, by unfold Retry.slots; rw [e1]; rfl, by rw [← hm, e1]; rfl⟩))
  rw [hm] at hs1
  obtain ⟨A, hA⟩ : ∃ A, who x l = A := ⟨_, rfl⟩
  obtain ⟨B, hB⟩ : ∃ B, Retry.slots x l = B := ⟨_, rfl⟩
  rw [hA] at RG hlw WA WO H1
  rw [hB] at RG hls SA SL H1
  have HLW := Lib.hid hlw
  have HLS := Lib.hid hls
  have A0 := Lib.hid (fun W => lit_ints W [0] (by decide) (by decide))
  have t1 : decide ((m : Int) > (x : Int)) = false := decide_eq_false (by omega)
  have t1n : decide (x < m) = false := decide_eq_false (by omega)
  clear hn hi g hm hA hB hlw hls
  have FA := Lib.hid (Retry.fact_any w)
  unfold Law
  go_enter Try.func3, Try.ntmps3
  go_wp2_with fail
  refine FA.out.mono ?_; rintro e w1 ⟨rfl, hb1⟩
  have HB1 := Lib.hid hb1
  clear FA hb1
  go_wp2_with fail
  refine (RG.out w1 HB1.out).mono ?_; rintro e w2 ⟨⟨r, cr, r2, cr2, rfl, ir, ir2⟩, hb⟩
  have HB2 := Lib.hid (bcall HB1.out hb)
  have hcr : m ≤ cr := by have := ir.1; have := HLW.out; omega
  have CA := Lib.hid (fun (h : 0 < m) => (show ∃ b o, r = some ⟨b, o, none⟩ ∧ ∀ k, k < m → w2.cell? ⟨b, o + k, none⟩ = some (.int .i64 (A[k]?.getD 0)) from by
    obtain ⟨b, o, e, _, hc⟩ := ir.2.2.2 (by rw [HLW.out]; exact h)
    exact ⟨b, o, e, fun k hk => hc k (by rw [HLW.out]; exact hk)⟩))
  have CB := Lib.hid (fun (h : 0 < m) => (show ∃ b o, r2 = some ⟨b, o, none⟩ ∧ ∀ k, k < m → w2.cell? ⟨b, o + k, none⟩ = some (.int .i64 (B[k]?.getD 0)) from by
    obtain ⟨b, o, e, _, hc⟩ := ir2.2.2.2 (by rw [HLS.out]; exact h)
    exact ⟨b, o, e, fun k hk => hc k (by rw [HLS.out]; exact hk)⟩))
  have IW := Lib.hid (fun q => (show Ints (w2.drewN q) r cr A from ir))
  have IW2 := Lib.hid (fun q => (show Ints (w2.drewN q) r2 cr2 B from ir2))
  clear RG HB1 ir ir2 hb
  go_wp2_with fail
  go_loopw [9] (fun iv wr => ∃ i : Nat, i ≤ m ∧ iv = .int .i64 (i : Int) ∧ Hid (∃ q, wr = w2.drewN q)) (fun i _ => m - (intOf i).toNat)
  case atStart => exact ⟨0, Nat.zero_le _, rfl, Lib.hid ⟨0, rfl⟩⟩
  case round =>
    obtain ⟨i, him, rfl, HD⟩ := hrel
    by_cases hlt : i < m
    · have v0 : decide ((i : Int) < (m : Int)) = true := decide_eq_true (by omega)
      have v1 : (i : Int) < (m : Int) := by omega
      obtain ⟨b, o, rfl, hat⟩ := CA.out (by omega)
      obtain ⟨b2, o2, rfl, hat2⟩ := CB.out (by omega)
      obtain ⟨y, hy, hyx⟩ := WA.out i hlt
      obtain ⟨z, hz, hz1⟩ := SA.out i hlt
      obtain ⟨q0, hq0⟩ := HD.out
      have HDN : Hid (∀ nq, ∃ q, wr.drewN nq = w2.drewN q) := Lib.hid fun nq => ⟨q0 + nq, by rw [hq0, World.drewN_drewN]⟩
      have ca : wr.cell? ⟨b, o + i, none⟩ = some (.int .i64 (y : Int)) := by
        have := hat i hlt
        rw [hy, Option.getD_some] at this
        rw [hq0]; exact this
      have cb : wr.cell? ⟨b2, o2 + i, none⟩ = some (.int .i64 (z : Int)) := by
        have := hat2 i hlt
        rw [hz, Option.getD_some] at this
        rw [hq0]; exact this
      have hic : i ≤ cr := by omega
      have IN := Lib.hid (fun W => Ring.in_any (y : Int) 0 ((x : Int) - 1) W true (in_true ⟨by omega, by omega⟩))
      have IN2 := Lib.hid (fun W => Ring.in_any (z : Int) 0 1000 W true (in_true ⟨by omega, by omega⟩))
      have HH := Lib.hid (fun k => has_in (some ⟨b, o, none⟩) cr i (A.take i) (y : Int) (wr.drewN k) (by rw [List.length_take, HLW.out]; omega) (ints_take (by rw [hq0]; exact IW.out q0) i) false (decide_eq_false (WO.out i (y : Int) hy)).symm)
      have hu0 : i ≠ 0 → ∃ j u : Nat, i = j + 1 ∧ wr.cell? ⟨b2, o2 + j, none⟩ = some (.int .i64 (u : Int)) ∧ u < z := fun h0 => by
        obtain ⟨j, rfl⟩ : ∃ j, i = j + 1 := ⟨i - 1, by omega⟩
        obtain ⟨u, hu, hu1⟩ := SA.out j (by omega)
        have hlate := SL.out j (j + 1) _ _ (by omega) hu hz
        have := hat2 j (by omega)
        rw [hu, Option.getD_some] at this
        exact ⟨j, u, rfl, by rw [hq0]; exact this, by omega⟩
      clear HD hq0 q0 hat hat2 hy hz WA SA WO SL CA CB
      by_cases hi0 : i = 0
      · subst hi0
        clear hu0
        rw [Nat.add_zero] at ca cb
        go_wp2_with fail
        go_quiet ((first
          | (go_at_call 11; refine Calls.quiet_of_same (HH.out _))
          | (go_at_call_of 10 (Value.int .i64 (y : Int)); refine Calls.quiet_of_same (IN.out _))
          | (go_at_call_of 10 (Value.int .i64 (z : Int)); refine Calls.quiet_of_same (IN2.out _))))
        go_wp2_with fail
        go_roundw
        case rel => exact ⟨1, by omega, by first | rfl | go_num, Lib.hid (HDN.out _)⟩
        case measure => simp [intOf]; omega
      · obtain ⟨j, u, hij, cc, huz⟩ := hu0 hi0
        have v2 : decide ((i : Int) > 0) = true := decide_eq_true (by omega)
        have v2n : decide (0 < i) = true := decide_eq_true (by omega)
        have v3 : (i : Int) - 1 = (j : Int) := by omega
        have v3a : (j : Int) < (m : Int) := by omega
        have v4 : decide ((z : Int) ≤ (u : Int)) = false := decide_eq_false (by omega)
        have v4n : decide (z ≤ u) = false := decide_eq_false (by omega)
        clear hi0 hu0 hij huz
        go_wp2_with fail
        go_quiet ((first
          | (go_at_call 11; refine Calls.quiet_of_same (HH.out _))
          | (go_at_call_of 10 (Value.int .i64 (y : Int)); refine Calls.quiet_of_same (IN.out _))
          | (go_at_call_of 10 (Value.int .i64 (z : Int)); refine Calls.quiet_of_same (IN2.out _))))
        go_wp2_with fail
        go_roundw
        case rel => exact ⟨i + 1, by omega, by first | rfl | go_num, Lib.hid (HDN.out _)⟩
        case measure => simp [intOf]; omega
    · obtain rfl : i = m := by omega
      have v0 : decide ((i : Int) < (i : Int)) = false := decide_eq_false (by omega)
      obtain ⟨q0, hq0⟩ := HD.out
      have IR := Lib.hid (show Ints wr r cr A from by rw [hq0]; exact IW.out q0)
      have IR2 := Lib.hid (show Ints wr r2 cr2 B from by rw [hq0]; exact IW2.out q0)
      have HB2 := Lib.hid (show Below w.heap.size w wr from by rw [hq0]; exact bdrewN HB2.out q0)
      clear IW IW2 HD hq0 q0
      by_cases h1 : 1 < x
      · have t2 : decide ((x : Int) > 1) = true := decide_eq_true (by omega)
        have t2n : decide (1 < x) = true := decide_eq_true h1
        go_wp2_with fail
        go_ret
        exact ⟨by first | rfl | simp, HB2.out⟩
      · obtain rfl : x = 1 := by omega
        obtain ⟨e1, e2, e3⟩ := H1.out rfl
        subst e1 e2 e3
        clear CA CB WA SA WO SL HLW HLS H1
        have S1 := Lib.hid (fun q (hq : Ints (wr.alloc (.cells #[.int .i64 0] 3)) q 1 [0]) => ints_any r q cr 1 1 1 [0] [0] _ rfl rfl (IR.out.below (balloc (brefl wr) _)) hq true (by decide))
        have S2 := Lib.hid (fun W (hW : Below wr.heap.size wr W) q (hq : Ints W q 1 [0]) => ints_any r2 q cr2 1 1 1 [0] [0] W rfl rfl (IR2.out.below hW) hq true (by decide))
        go_wp2_with fail
        refine (S1.out _ (A0.out wr)).mono ?_; rintro e w3 ⟨rfl, hb⟩
        have HB3 := Lib.hid (bcall (balloc HB2.out _) hb)
        have HW3 := Lib.hid (bcall (balloc (brefl wr) _) hb)
        clear S1 hb HB2
        go_wp2_with fail
        refine (S2.out _ (balloc HW3.out _) _ (A0.out w3)).mono ?_; rintro e w4 ⟨rfl, hb⟩
        have HB4 := Lib.hid (bcall (balloc HB3.out _) hb)
        clear S2 hb HB3 HW3
        go_wp2_with fail
        go_ret
        exact ⟨by first | rfl | simp, HB4.out⟩
theorem law_any (x : Int) (p : Option Addr) (cap n : Nat) (l : List Int) (w : World) (hn : n = l.length) (hi : Ints w p cap l) : Law x p cap n w := by
  by_cases hc : code x l = 0
  · obtain ⟨m, rfl, g⟩ := code_zero hc
    exact law_good m p cap n l w hn hi g
  · exact law_bad x p cap n l w hn hi _ rfl hc

theorem reads : Try.f3.params.toList.all (fun t => Try.prog.readableRec t && decide (t < Try.prog.types.size)) = true := by kernel_rfl

theorem contract (H : Type) (enc : TypeId × Value → H) (W : World) (base : Nat) (args : Array Value) (ds gs : List (DataW H)) (before : List MemPlace)
    (hval : ∀ (j : Nat) t v, Try.f3.params[j]? = some t → args[j]? = some v → Value.okWide Try.prog W .any base t v)
    (hW : DataW.Whole enc Try.prog Try.f3.params.toList Rows.retryAloneSpec.vars false W args.toList ds gs before) :
    Calls Try.prog 3 args W fun e W' => ∃ v, e = .returned v ∧ Rows.retryAloneSpec.post enc Try.prog Try.f3 false true false false W args v W' := by
  have hW' := hW
  obtain ⟨p, q, hA0, hV, rfl, hfz, hnd⟩ := hW
  have hA : DataW.TrodAll enc Try.prog W 0 (fun _ => true) true Try.f3.params.toList args.toList ds p := hA0
  have hlt := hA.lt
  rw [Try.params3] at hA hval
  obtain ⟨v0, vs0, d0, ds0, p0, q0, hargs, rfl, rfl, h0, r0⟩ := trodAll_cons hA
  obtain ⟨v1, vs1, d1, ds1, p1, q1, hvs1, rfl, rfl, h1, r1⟩ := trodAll_cons r0
  obtain ⟨hvsn, rfl, rfl⟩ := trodAll_nil r1
  simp only [hvsn, hvs1] at hargs
  obtain rfl : args = #[v0, v1] := by cases args; simp_all
  obtain ⟨rfl, rfl⟩ := trodVars_none hV
  clear hA0
  obtain ⟨a0, rfl, rfl, rfl, w0⟩ := open_int Try.underlying3 (hval 0 3 v0 rfl rfl) h0
  have b0 := bounds_int w0
  obtain ⟨p1a, cap1, l1, rfl, i1⟩ := open_intsl Try.underlying22 Try.underlying3 (by kernel_rfl) (hval 1 22 v1 rfl rfl) h1 (fun x hx => hlt x (by simp [hx]))
  exact law_post 4 laid reads rfl Try.underlying4 rfl hW' ⟨rfl, rfl, rfl⟩ (law_any a0 p1a _ _ l1 W rfl i1)

set_option maxRecDepth 100000 in
theorem lifted (os : Os) (started : os.Started) (H : Type) (enc : TypeId × Value → H) :
    ReturnsInHanded {} Try.checked os 3 .any (Rows.retryAloneSpec.pre6 enc Try.prog Try.f3 Rows.retryAloneRow.domain false) (Rows.retryAloneSpec.post enc Try.prog Try.f3 false true false false) := by
  refine returnsInHanded_of_change (C := Try.checked) own started (by kernel_rfl) Try.func3
    (ChangeSpec.witness6 (enc := enc) (C := Try.checked) false ⟨#[], #[.int .i64 0, .slice none 0 0], []⟩ 8 (by kernel_rfl) (by kernel_rfl) (by kernel_rfl) (by kernel_rfl)) ?_
  intro W base args ds gs before hval hW _ _
  exact contract H enc W base args ds gs before hval hW

theorem proved : Rows.RetryAloneSaid :=
  OpenClaim.holds_of_wide 3 Try.f3 rfl rfl rfl rfl rfl rfl rfl ⟨rfl, rfl, rfl, rfl, rfl⟩ rfl rfl rfl rfl rfl (by kernel_rfl) Try.func3 (by kernel_rfl)
    (of_decide_eq_true (by kernel_rfl)) (by unfold Func.isWrapper; first | (rw [if_pos (by decide +kernel)]; kernel_rfl) | (rw [if_neg (by decide +kernel)]; exact ⟨rfl, rfl⟩))
    (fun os started H enc _ => lifted os started H enc)
end Go.Proofs.Yteggajhpjdidcaa.RetryAloneL
