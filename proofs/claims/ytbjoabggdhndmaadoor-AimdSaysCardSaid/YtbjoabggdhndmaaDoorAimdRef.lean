/- The document's answers Flows and Aimd. No statement is proved here. -/
import Derived.Test.YtbjoabggdhndmaaDoorAimdMath
import Derived.Test.YtbjoabggdhndmaaDoorErr
import Derived.Test.YtbjoabggdhndmaaDoorAll
import Derived.Test.YtbjoabggdhndmaaDoorIn2
namespace Go.Proofs.YtbjoabggdhndmaaDoor.AimdRef
open Go.ChangeShapes Go.WideShapes Go.ChangeAt Go.RowKit Go.Proofs.YtbjoabggdhndmaaDoor.Kit Go.Proofs.YtbjoabggdhndmaaDoor.App Go.Proofs.YtbjoabggdhndmaaDoor.Err Go.Proofs.YtbjoabggdhndmaaDoor.AimdMath
set_option linter.unusedVariables false
set_option maxRecDepth 20000

theorem fits_within (l : List Int) : fits l = within 0 1000 l := rfl
set_option maxHeartbeats 1000000 in
theorem flows_any (p : Option Addr) (cap n : Nat) (room : Int) (l : List Int) (w : World) (hn : n = l.length) (hi : Ints w p cap l) (c : Int) (hc : c = bad l room) :
    Calls Tryd.prog 4 #[.slice p n cap, .int .i64 room] w fun e w' => e = .returned (.int .i64 c) ∧ w' = w := by
  have hlen := hi.len_le
  rw [← hn] at hlen
  unfold bad at hc
  rw [← hn] at hc
  by_cases h0 : n = 0
  · have t0 : ((n : Int) == 0) = true := by rw [beq_iff_eq]; omega
    rw [if_pos h0] at hc
    subst hc
    clear hn hi h0
    go_enter Tryd.func4, Tryd.ntmps4
    go_wp2_with fail
    go_ret
    exact ⟨rfl, rfl⟩
  have t0 : ((n : Int) == 0) = false := by rw [beq_eq_false_iff_ne]; omega
  rw [if_neg h0] at hc
  by_cases h1 : 5 < n
  · have t1 : decide ((n : Int) > 5) = true := decide_eq_true (by omega)
    rw [if_pos h1] at hc
    subst hc
    clear hn hi h0
    go_enter Tryd.func4, Tryd.ntmps4
    go_wp2_with fail
    go_ret
    exact ⟨rfl, rfl⟩
  have t1 : decide ((n : Int) > 5) = false := decide_eq_false (by omega)
  rw [if_neg h1] at hc
  obtain ⟨R, hR⟩ : ∃ R, R = fits l := ⟨_, rfl⟩
  rw [← hR] at hc
  have AL := Lib.hid (all_any 0 1000 p cap n l w hn hi R (by rw [hR, fits_within]))
  obtain ⟨R2, hR2⟩ : ∃ R2, R2 = (decide (1 ≤ room) && decide (room ≤ 1000)) := ⟨_, rfl⟩
  have IN := Lib.hid (fun W => in2_any room 1 1000 W R2 hR2)
  have hrr : R2 = true ↔ 1 ≤ room ∧ room ≤ 1000 := by rw [hR2]; simp
  clear hR hn hi h0 h1 hR2
  cases R with
  | false =>
    have hc0 : c = 1 := by rw [hc, if_neg (fun h => by cases h.1)]
    clear hc
    subst hc0
    go_enter Tryd.func4, Tryd.ntmps4
    go_wp2_with fail
    refine AL.out.mono ?_; rintro e w1 ⟨rfl, rfl⟩
    go_wp2_with fail
    go_ret
    exact ⟨rfl, rfl⟩
  | true =>
    cases R2 with
    | true =>
      have hc0 : c = 0 := by rw [hc, if_pos ⟨rfl, hrr.1 rfl⟩]
      clear hc hrr
      subst hc0
      go_enter Tryd.func4, Tryd.ntmps4
      go_wp2_with fail
      refine AL.out.mono ?_; rintro e w1 ⟨rfl, rfl⟩
      go_wp2_with fail
      refine (IN.out _).mono ?_; rintro e w1 ⟨rfl, rfl⟩
      go_wp2_with fail
      go_ret
      exact ⟨rfl, rfl⟩
    | false =>
      have hc0 : c = 1 := by rw [hc, if_neg (fun h => by have := hrr.2 h.2; cases this)]
      clear hc hrr
      subst hc0
      go_enter Tryd.func4, Tryd.ntmps4
      go_wp2_with fail
      refine AL.out.mono ?_; rintro e w1 ⟨rfl, rfl⟩
      go_wp2_with fail
      refine (IN.out _).mono ?_; rintro e w1 ⟨rfl, rfl⟩
      go_wp2_with fail
      go_ret
      exact ⟨rfl, rfl⟩

theorem map_take (f : Int → Int) (l : List Int) (k : Nat) (hk : k < l.length) : (l.take (k + 1)).map f = (l.take k).map f ++ [f (l[k]?.getD 0)] := by
  rw [List.take_add_one, List.getElem?_eq_getElem hk, List.map_append]; rfl
set_option maxHeartbeats 4000000 in
theorem ref_aimd (p : Option Addr) (cap n s : Nat) (room : Int) (l : List Int) (w : World) (hn : n = l.length) (hi : Ints w p cap l) (h0 : bad l room = 0) (hs : s ≤ 1000) :
    Calls Tryd.prog 8 #[.slice p n cap, .int .i64 room, .int .i64 (s : Int)] w fun e w' => (∃ p' c', e = .returned (.tuple #[.slice p' n c', .int .i64 (H room l s : Int)]) ∧ Ints w' p' c' (rates room l s)) ∧ Below w.heap.size w w' := by
  obtain ⟨h1, h5, hf, hr1, hr2⟩ := bad_zero.1 h0
  have HF := Lib.hid (fits_all hf)
  have HN := Lib.hid hn
  have hlen := hi.len_le
  rw [← hn] at h1 h5 hlen
  have HI := Lib.hid hi
  clear hi h0 hn hf
  go_enter Tryd.func8, Tryd.ntmps8
  go_wp2_with fail
  go_loopw [0, 8, 9] (fun lv hv iv wr => ∃ k : Nat, ∃ pp cc, k ≤ s ∧ lv = .slice pp n cc ∧ iv = .int .i64 (k : Int) ∧ hv = .int .i64 (H room l k : Int) ∧ Hid (Ints wr pp cc (rates room l k) ∧ Below w.heap.size w wr)) (fun _ _ i _ => s - (intOf i).toNat)
  case atStart => exact ⟨0, p, cap, Nat.zero_le _, rfl, rfl, rfl, Lib.hid ⟨by rw [rates_zero]; exact HI.out, brefl _⟩⟩
  case round =>
    obtain ⟨k, pp, cc, hk, rfl, rfl, rfl, HW⟩ := hrel
    generalize wr = w3 at HW ⊢
    by_cases hlt : k < s
    · have hin := rates_in (room := room) (k := k) HF.out
      have hlm : n = (rates room l k).length := by rw [rates_len]; exact HN.out
      have HL := Lib.hid (H_le (room := room) (l := l) (k := k))
      have HO := Lib.hid (fun h => And.intro (rates_over (room := room) (l := l) (k := k) h) (H_over (room := room) (l := l) (k := k) h))
      have HU := Lib.hid (fun h => And.intro (rates_under (room := room) (l := l) (k := k) h) (H_under (room := room) (l := l) (k := k) h))
      have HIM := Lib.hid HW.out.1
      have HBW := Lib.hid HW.out.2
      clear HW
      generalize hm : rates room l k = m at hin hlm HO HU HIM
      clear hm
      have HIN := Lib.hid hin
      have HLM := Lib.hid hlm
      clear hin hlm
      go_wp2_with fail
      go_loopw [10, 11] (fun tv iv wq => ∃ i : Nat, ∃ t : Int, i ≤ n ∧ iv = .int .i64 (i : Int) ∧ tv = .int .i64 t ∧ wq = w3 ∧ 0 ≤ t ∧ t ≤ 10000 * i ∧ Hid (t = (m.take i).sum)) (fun _ i _ => n - (intOf i).toNat)
      case atStart => exact ⟨0, 0, Nat.zero_le _, rfl, rfl, rfl, by omega, by omega, Lib.hid (by simp)⟩
      case round =>
        obtain ⟨i, t, hi, rfl, rfl, hw3, ht0, ht1, HT⟩ := hrel
        subst wr
        by_cases hlt2 : i < n
        · have hil : i < m.length := by rw [← HLM.out]; exact hlt2
          obtain ⟨b, off, rfl, _, hc⟩ := HIM.out.2.2.2 (by omega)
          have hck := hc i hil
          have hx2 := HIN.out (m[i]?.getD 0) (by rw [List.getElem?_eq_getElem hil]; exact List.getElem_mem hil)
          have HS := Lib.hid (take_sum m i hil)
          clear hc hil
          generalize m[i]?.getD 0 = x at hck hx2 HS
          have hw := wrap_in (n := t + x) (by omega)
          go_wp2_with fail
          go_roundw
          case rel => exact ⟨i + 1, t + x, by omega, by first | rfl | go_num, by first | rfl | rw [hw] | go_num, by first | trivial | rfl, by omega, by omega, Lib.hid (by rw [HS.out, HT.out])⟩
          case measure => simp [intOf]; omega
        · obtain rfl : i = n := by omega
          have HT2 := Lib.hid (show m.sum = t by rw [HT.out, List.take_of_length_le (by rw [← HLM.out]; exact Nat.le_refl _)])
          clear HT
          by_cases hov : room < t
          · have t5 : decide (t > room) = true := decide_eq_true hov
            obtain ⟨hr3, hh3⟩ := HO.out (by have := HT2.out; omega)
            have HR3 := Lib.hid hr3
            have HH3 := Lib.hid hh3
            clear hr3 hh3 hov HO HU
            go_wp2_with fail
            go_loopw [12, 13] (fun av jv wq => ∃ j : Nat, ∃ vv, vv = av ∧ j ≤ i ∧ jv = .int .i64 (j : Int) ∧ Hid (OwnI wq w3.heap.size vv ((m.take j).map (fun x => x / 2)) ∧ Below w3.heap.size w3 wq)) (fun _ iv _ => i - (intOf iv).toNat)
            case atStart => exact ⟨0, _, rfl, Nat.zero_le _, rfl, Lib.hid ⟨OwnI.nil _ _, brefl _⟩⟩
            case round =>
              obtain ⟨j, vv, rfl, hj, rfl, HA⟩ := hrel
              by_cases hlt3 : j < i
              · have hil : j < m.length := by rw [← HLM.out]; exact hlt3
                have hiw := HIM.out.below HA.out.2
                obtain ⟨b, off, rfl, _, hc⟩ := hiw.2.2.2 (by omega)
                have hck := hc j hil
                have hx2 := HIN.out (m[j]?.getD 0) (by rw [List.getElem?_eq_getElem hil]; exact List.getElem_mem hil)
                have HS := Lib.hid (map_take (fun x => x / 2) m j hil)
                have HML := Lib.hid (show ((m.take j).map (fun x => x / 2)).length ≤ 5 by rw [List.length_map, List.length_take]; omega)
                clear hc hil hiw
                generalize m[j]?.getD 0 = x at hck hx2 HS
                obtain ⟨y, hy⟩ : ∃ y, x / 2 = y := ⟨_, rfl⟩
                have hy2 : -9223372036854775808 ≤ y ∧ y ≤ 9223372036854775807 := by omega
                have hq2 : x.tdiv 2 = y := by rw [Int.tdiv_eq_ediv_of_nonneg (by omega)]; exact hy
                have hwy := wrap_in (n := y) hy2
                have hB0 := HA.out.2.size
                have HY := Lib.hid (show (m.take (j + 1)).map (fun x => x / 2) = (m.take j).map (fun x => x / 2) ++ [y] by first | exact HS.out | rw [HS.out, ← hy])
                clear hy HS
                go_wp2_with (first
                  | (at_builtin
                     refine wp_app rfl (.tmp 40) (.tmp 46) rfl w3.heap.size vv ((m.take j).map (fun x => x / 2)) (some ⟨wr.heap.size, 0, none⟩) 1 1 [y] rfl (HA.out.1.alloc _) rfl rfl (Ints.one _ (y) (by simp [Lit.wf, IntKind.min, IntKind.max, IntKind.signed, IntKind.bits]; omega)) (by have := HML.out; simp at this ⊢; omega) (Nat.le_trans hB0 (by simp)) ?_
                     intro v8 w8 ho8 hg8 hat8
                     have HB8 := Lib.hid (below_one HA.out.2 hB0 _ HA.out.1 hg8)
                     have HO8 := Lib.hid ho8
                     clear ho8 hg8 hat8))
                go_wp2_with fail
                go_roundw
                case rel => exact ⟨j + 1, v8, rfl, by omega, by first | rfl | go_num, Lib.hid ⟨by rw [HY.out]; exact HO8.out, HB8.out⟩⟩
                case measure => simp [intOf]; omega
              · obtain rfl : j = i := by omega
                have hoe := HA.out.1
                rw [List.take_of_length_le (by rw [← HLM.out]; exact Nat.le_refl _), ← HR3.out] at hoe
                obtain ⟨pq, cq, rfl, hiq⟩ := hoe.form
                rw [rates_len, ← HN.out]
                have HIQ := Lib.hid hiq
                have HBQ := Lib.hid (bcall HBW.out HA.out.2)
                clear hoe hiq HA
                have hwh := wrap_in (n := (H room l k : Int) + 1) (by have := HL.out; omega)
                go_wp2_with fail
                go_roundw
                case rel => exact ⟨k + 1, pq, cq, by omega, rfl, by first | rfl | go_num, by first | (rw [HH3.out]; done) | (rw [HH3.out]; rfl) | (rw [HH3.out]; go_num), Lib.hid ⟨HIQ.out, HBQ.out⟩⟩
                case measure => simp [intOf]; omega
          · have t5 : decide (t > room) = false := decide_eq_false hov
            obtain ⟨hr3, hh3⟩ := HU.out (by have := HT2.out; omega)
            have HR3 := Lib.hid hr3
            have HH3 := Lib.hid hh3
            clear hr3 hh3 hov HO HU
            go_wp2_with fail
            go_loopw [12, 13] (fun av jv wq => ∃ j : Nat, ∃ vv, vv = av ∧ j ≤ i ∧ jv = .int .i64 (j : Int) ∧ Hid (OwnI wq w3.heap.size vv ((m.take j).map (fun x => x + 1)) ∧ Below w3.heap.size w3 wq)) (fun _ iv _ => i - (intOf iv).toNat)
            case atStart => exact ⟨0, _, rfl, Nat.zero_le _, rfl, Lib.hid ⟨OwnI.nil _ _, brefl _⟩⟩
            case round =>
              obtain ⟨j, vv, rfl, hj, rfl, HA⟩ := hrel
              by_cases hlt3 : j < i
              · have hil : j < m.length := by rw [← HLM.out]; exact hlt3
                have hiw := HIM.out.below HA.out.2
                obtain ⟨b, off, rfl, _, hc⟩ := hiw.2.2.2 (by omega)
                have hck := hc j hil
                have hx2 := HIN.out (m[j]?.getD 0) (by rw [List.getElem?_eq_getElem hil]; exact List.getElem_mem hil)
                have HS := Lib.hid (map_take (fun x => x + 1) m j hil)
                have HML := Lib.hid (show ((m.take j).map (fun x => x + 1)).length ≤ 5 by rw [List.length_map, List.length_take]; omega)
                clear hc hil hiw
                generalize m[j]?.getD 0 = x at hck hx2 HS
                skip
                have hy2 : -9223372036854775808 ≤ x + 1 ∧ x + 1 ≤ 9223372036854775807 := by omega
                have hwy := wrap_in (n := x + 1) (by omega)
                have hB0 := HA.out.2.size
                have HY := Lib.hid (show (m.take (j + 1)).map (fun x => x + 1) = (m.take j).map (fun x => x + 1) ++ [x + 1] by first | exact HS.out | rw [HS.out, ← hy])
                clear  HS
                go_wp2_with (first
                  | (at_builtin
                     refine wp_app rfl (.tmp 48) (.tmp 54) rfl w3.heap.size vv ((m.take j).map (fun x => x + 1)) (some ⟨wr.heap.size, 0, none⟩) 1 1 [x + 1] rfl (HA.out.1.alloc _) rfl rfl (Ints.one _ (x + 1) (by simp [Lit.wf, IntKind.min, IntKind.max, IntKind.signed, IntKind.bits]; omega)) (by have := HML.out; simp at this ⊢; omega) (Nat.le_trans hB0 (by simp)) ?_
                     intro v8 w8 ho8 hg8 hat8
                     have HB8 := Lib.hid (below_one HA.out.2 hB0 _ HA.out.1 hg8)
                     have HO8 := Lib.hid ho8
                     clear ho8 hg8 hat8))
                go_wp2_with fail
                go_roundw
                case rel => exact ⟨j + 1, v8, rfl, by omega, by first | rfl | go_num, Lib.hid ⟨by rw [HY.out]; exact HO8.out, HB8.out⟩⟩
                case measure => simp [intOf]; omega
              · obtain rfl : j = i := by omega
                have hoe := HA.out.1
                rw [List.take_of_length_le (by rw [← HLM.out]; exact Nat.le_refl _), ← HR3.out] at hoe
                obtain ⟨pq, cq, rfl, hiq⟩ := hoe.form
                rw [rates_len, ← HN.out]
                have HIQ := Lib.hid hiq
                have HBQ := Lib.hid (bcall HBW.out HA.out.2)
                clear hoe hiq HA
                skip
                go_wp2_with fail
                go_roundw
                case rel => exact ⟨k + 1, pq, cq, by omega, rfl, by first | rfl | go_num, by first | (rw [HH3.out]; done) | (rw [HH3.out]; rfl) | (rw [HH3.out]; go_num), Lib.hid ⟨HIQ.out, HBQ.out⟩⟩
                case measure => simp [intOf]; omega
    · obtain rfl : k = s := by omega
      go_wp2_with fail
      go_ret2
      exact ⟨⟨_, _, rfl, HW.out.1⟩, HW.out.2⟩
end Go.Proofs.YtbjoabggdhndmaaDoor.AimdRef
