/- Equal rates remain equal, and whoever has no less never has less: the law returns true for every input. No condition. -/
import Derived.Test.YtbjoabggdhndmaaAimdLaw
import Derived.Test.YtbjoabggdhndmaaRttIn
namespace Go.Proofs.Ytbjoabggdhndmaa.aimdSameP
open Go.ChangeShapes Go.WideShapes Go.ChangeAt Go.RowKit
open Go.Proofs.Ytbjoabggdhndmaa.Kit Go.Proofs.Ytbjoabggdhndmaa.App Go.Proofs.Ytbjoabggdhndmaa.Err Go.Proofs.Ytbjoabggdhndmaa.AimdMath Go.Proofs.Ytbjoabggdhndmaa.Aimd Go.Proofs.Ytbjoabggdhndmaa.Rtt
set_option linter.unusedVariables false
set_option maxRecDepth 20000

abbrev Law (x my : Int) (p : Option Addr) (cap : Nat) (l : List Int) (room s : Int) (w : World) : Prop := Calls Try.prog 5 #[.int .i64 x, .int .i64 my, .slice p l.length cap, .int .i64 room, .int .i64 s] w fun e w' => e = .returned (.bool true) ∧ Below w.heap.size w w'
set_option maxHeartbeats 4000000 in
theorem law_bad (x my : Int) (hxw : (Lit.int .i64 x).wf = true) (p : Option Addr) (cap : Nat) (l : List Int) (room s : Int) (w : World) (hi : Ints w p cap l) (h0 : badR l room s ≠ 0) : Law x my p cap l room s w := by
  obtain ⟨c, hc⟩ : ∃ c, c = badR l room s := ⟨_, rfl⟩
  rw [← hc] at h0
  obtain ⟨n, hn⟩ : ∃ n, n = l.length := ⟨_, rfl⟩
  have hlen := hi.len_le
  unfold Law
  rw [← hn] at hlen ⊢
  have FA := Lib.hid (fact_any w)
  have RB := Lib.hid (fun W (hb : Below w.heap.size w W) => run_bad p cap n room s l W hn (hi.below hb) c hc h0)
  clear hi hc h0 hn
  go_enter Try.func5, Try.ntmps5
  go_wp2_with fail
  refine FA.out.mono ?_; rintro e w1 ⟨rfl, hb1⟩
  go_wp2_with fail
  by_cases hmy : 1 ≤ my ∧ my ≤ 5
  · obtain ⟨q, rfl⟩ : ∃ q : Nat, my = q := ⟨my.toNat, by omega⟩
    have INY := Lib.hid (in_any (q : Int) 1 5 w1 true (in_true hmy))
    have hq1 : 1 ≤ q := by omega
    have hq5 : q ≤ 5 := by omega
    clear hmy
    refine INY.out.mono ?_; rintro e w2 ⟨rfl, rfl⟩
    clear INY
    go_wp2_with fail
    go_loopw [12, 13] (fun av iv wr => ∃ i : Nat, ∃ vv, vv = av ∧ i ≤ q ∧ iv = .int .i64 (i : Int) ∧ Hid (OwnI wr w2.heap.size vv (List.replicate i x) ∧ Below w2.heap.size w2 wr)) (fun _ i _ => q - (intOf i).toNat)
    case atStart => exact ⟨0, _, rfl, Nat.zero_le _, rfl, Lib.hid ⟨OwnI.nil _ _, brefl _⟩⟩
    case round =>
      obtain ⟨i, vv, rfl, hiq, rfl, HA⟩ := hrel
      by_cases hlt : i < q
      · have hB0 := HA.out.2.size
        have HW := Lib.hid hxw
        clear hxw
        go_wp2_with (first
          | (at_builtin
             refine wp_app rfl (.tmp 33) (.tmp 35) rfl w2.heap.size vv (List.replicate i x) (some ⟨wr.heap.size, 0, none⟩) 1 1 [x] rfl (HA.out.1.alloc _) rfl rfl (Ints.one _ x HW.out) (by rw [List.length_replicate]; simp; omega) (Nat.le_trans hB0 (by simp)) ?_
             intro v8 w8 ho8 hg8 hat8
             have HB8 := Lib.hid (below_one HA.out.2 hB0 _ HA.out.1 hg8)
             have HO8 := Lib.hid ho8
             clear ho8 hg8 hat8))
        go_wp2_with fail
        go_roundw
        case rel => exact ⟨i + 1, v8, rfl, by omega, by first | rfl | go_num, Lib.hid ⟨by rw [List.replicate_succ']; exact HO8.out, HB8.out⟩⟩
        case measure => simp [intOf]; omega
      · obtain rfl : i = q := by omega
        have hB4 := bcall hb1 HA.out.2
        obtain ⟨ap, ac, rfl, hai⟩ := HA.out.1.form
        rw [List.length_replicate]
        have HAI := Lib.hid hai
        clear hai HA
        by_cases hqb : badR (List.replicate i x) room s = 0
        · obtain ⟨hq0, hs0, hs1⟩ := badR_zero.1 hqb
          obtain ⟨s', rfl⟩ : ∃ k : Nat, s = k := ⟨s.toNat, by omega⟩
          have RA := Lib.hid (run_good ap ac i s' room (List.replicate i x) wr (by rw [List.length_replicate]) HAI.out hq0 (by omega))
          have hre : rates room (List.replicate i x) s' = List.replicate i (F room (List.replicate i x) s' x) := by unfold rates; rw [List.map_replicate]
          rw [hre] at RA
          generalize F room (List.replicate i x) s' x = y at RA
          generalize (H room (List.replicate i x) s' : Int) = hv at RA
          clear hqb hq0 hs0 hs1 hre
          go_wp2_with fail
          refine RA.out.mono ?_; rintro e w5 ⟨⟨v, rfl, ho⟩, hb5⟩
          have HB5 := Lib.hid (bcall hB4 hb5)
          obtain ⟨vp, vc, rfl, hvi⟩ := ho.form
          rw [List.length_replicate]
          have HV := Lib.hid hvi
          clear ho hb5 hvi hB4 HAI RA
          go_wp2_with fail
          go_loopw [17] (fun iv wr => ∃ k j : Nat, 1 ≤ k ∧ k ≤ i ∧ iv = .int .i64 (k : Int) ∧ wr = w5.drewN j) (fun iv _ => i - (intOf iv).toNat)
          case atStart => exact ⟨1, 0, by omega, hq1, rfl, rfl⟩
          case round =>
            obtain ⟨k, j, hk1, hki, rfl, rfl⟩ := hrel
            by_cases hkt : k < i
            · obtain ⟨b2, off2, rfl, hbb2, hc2⟩ := HV.out.2.2.2 (by rw [List.length_replicate]; omega)
              have c3 := hc2 k (by rw [List.length_replicate]; omega)
              have c4 := hc2 0 (by rw [List.length_replicate]; omega)
              rw [List.getElem?_replicate, if_pos hkt] at c3
              rw [List.getElem?_replicate, if_pos (by omega), Nat.add_zero] at c4
              change w5.cell? _ = some (.int .i64 y) at c3
              change w5.cell? _ = some (.int .i64 y) at c4
              have t5 : (y != y) = false := by simp
              clear hc2
              go_wp2_with fail
              go_region
              all_goals
                go_wp2_with fail
                go_roundw
                case rel => exact ⟨k + 1, j + 1, by omega, by omega, by first | rfl | go_num, by first | rfl | (simp only [World.drewN_drewN]; rfl)⟩
                case measure => simp [intOf]; omega
            · obtain rfl : k = i := by omega
              clear HV
              have hBX := Err.bdrewN HB5.out j
              generalize w5.drewN j = wx at hBX ⊢
              have HBX := Lib.hid hBX
              clear hBX HB5
              go_wp2_with fail
              refine (RB.out wx HBX.out).mono ?_; rintro e w12 ⟨rfl, rfl⟩
              go_wp2_with fail
              go_ret
              exact ⟨rfl, HBX.out⟩
        · obtain ⟨c9, hc9⟩ : ∃ c9, c9 = badR (List.replicate i x) room s := ⟨_, rfl⟩
          have RA := Lib.hid (run_bad ap ac i room s (List.replicate i x) wr (by rw [List.length_replicate]) HAI.out c9 hc9 (by rw [hc9]; exact hqb))
          clear hqb hc9
          go_wp2_with fail
          refine RA.out.mono ?_; rintro e w5 ⟨rfl, rfl⟩
          go_wp2_with fail
          go_ret
          exact ⟨rfl, hB4⟩
  · have INN := Lib.hid (in_any my 1 5 w1 false (in_false hmy))
    clear hmy
    refine INN.out.mono ?_; rintro e w2 ⟨rfl, rfl⟩
    clear INN
    go_wp2_with fail
    refine (RB.out w2 hb1).mono ?_; rintro e w12 ⟨rfl, rfl⟩
    go_wp2_with fail
    go_ret
    exact ⟨rfl, hb1⟩
set_option maxHeartbeats 4000000 in
theorem law_good (x my : Int) (hxw : (Lit.int .i64 x).wf = true) (p : Option Addr) (cap : Nat) (l : List Int) (room s : Int) (w : World) (hi : Ints w p cap l) (h0 : bad l room = 0) (hs : 0 ≤ s ∧ s ≤ 1000) : Law x my p cap l room s w := by
  obtain ⟨n, hn⟩ : ∃ n, n = l.length := ⟨_, rfl⟩
  obtain ⟨st, hst⟩ : ∃ st : Nat, s = st := ⟨s.toNat, by omega⟩
  have hlen := hi.len_le
  have hrl : (rates room l st).length = n := by rw [rates_len, hn]
  have hord : ∀ i k : Nat, i < n → k < n → l[i]?.getD 0 ≤ l[k]?.getD 0 → (rates room l st)[i]?.getD 0 ≤ (rates room l st)[k]?.getD 0 := fun i k h1 h2 h3 => by
    unfold rates
    rw [List.getElem?_map, List.getElem?_map]
    rw [List.getElem?_eq_getElem (by omega), List.getElem?_eq_getElem (by omega)] at h3 ⊢
    exact F_mono h3
  unfold Law
  rw [← hn] at hlen ⊢
  have FA := Lib.hid (fact_any w)
  have RG := Lib.hid (fun W (hb : Below w.heap.size w W) => run_good p cap n st room l W hn (hi.below hb) h0 (by omega))
  have HRL := Lib.hid hrl
  have ORD := Lib.hid hord
  rw [← hst] at RG
  have HI := Lib.hid hi
  have HN := Lib.hid hn
  clear hi h0 hn hrl hord hst
  generalize rates room l st = m at RG ORD HRL
  generalize (H room l st : Int) = hv at RG
  go_enter Try.func5, Try.ntmps5
  go_wp2_with fail
  refine FA.out.mono ?_; rintro e w1 ⟨rfl, hb1⟩
  go_wp2_with fail
  by_cases hmy : 1 ≤ my ∧ my ≤ 5
  · obtain ⟨q, rfl⟩ : ∃ q : Nat, my = q := ⟨my.toNat, by omega⟩
    have INY := Lib.hid (in_any (q : Int) 1 5 w1 true (in_true hmy))
    have hq1 : 1 ≤ q := by omega
    have hq5 : q ≤ 5 := by omega
    clear hmy
    refine INY.out.mono ?_; rintro e w2 ⟨rfl, rfl⟩
    clear INY
    go_wp2_with fail
    go_loopw [12, 13] (fun av iv wr => ∃ i : Nat, ∃ vv, vv = av ∧ i ≤ q ∧ iv = .int .i64 (i : Int) ∧ Hid (OwnI wr w2.heap.size vv (List.replicate i x) ∧ Below w2.heap.size w2 wr)) (fun _ i _ => q - (intOf i).toNat)
    case atStart => exact ⟨0, _, rfl, Nat.zero_le _, rfl, Lib.hid ⟨OwnI.nil _ _, brefl _⟩⟩
    case round =>
      obtain ⟨i, vv, rfl, hiq, rfl, HA⟩ := hrel
      by_cases hlt : i < q
      · have hB0 := HA.out.2.size
        have HW := Lib.hid hxw
        clear hxw
        go_wp2_with (first
          | (at_builtin
             refine wp_app rfl (.tmp 33) (.tmp 35) rfl w2.heap.size vv (List.replicate i x) (some ⟨wr.heap.size, 0, none⟩) 1 1 [x] rfl (HA.out.1.alloc _) rfl rfl (Ints.one _ x HW.out) (by rw [List.length_replicate]; simp; omega) (Nat.le_trans hB0 (by simp)) ?_
             intro v8 w8 ho8 hg8 hat8
             have HB8 := Lib.hid (below_one HA.out.2 hB0 _ HA.out.1 hg8)
             have HO8 := Lib.hid ho8
             clear ho8 hg8 hat8))
        go_wp2_with fail
        go_roundw
        case rel => exact ⟨i + 1, v8, rfl, by omega, by first | rfl | go_num, Lib.hid ⟨by rw [List.replicate_succ']; exact HO8.out, HB8.out⟩⟩
        case measure => simp [intOf]; omega
      · obtain rfl : i = q := by omega
        have hB4 := bcall hb1 HA.out.2
        obtain ⟨ap, ac, rfl, hai⟩ := HA.out.1.form
        rw [List.length_replicate]
        have HAI := Lib.hid hai
        clear hai HA
        by_cases hqb : badR (List.replicate i x) room s = 0
        · obtain ⟨hq0, hs0, hs1⟩ := badR_zero.1 hqb
          obtain ⟨s', rfl⟩ : ∃ k : Nat, s = k := ⟨s.toNat, by omega⟩
          have RA := Lib.hid (run_good ap ac i s' room (List.replicate i x) wr (by rw [List.length_replicate]) HAI.out hq0 (by omega))
          have hre : rates room (List.replicate i x) s' = List.replicate i (F room (List.replicate i x) s' x) := by unfold rates; rw [List.map_replicate]
          rw [hre] at RA
          generalize F room (List.replicate i x) s' x = y at RA
          generalize (H room (List.replicate i x) s' : Int) = hv at RA
          clear hqb hq0 hs0 hs1 hre
          go_wp2_with fail
          refine RA.out.mono ?_; rintro e w5 ⟨⟨v, rfl, ho⟩, hb5⟩
          have HB5 := Lib.hid (bcall hB4 hb5)
          obtain ⟨vp, vc, rfl, hvi⟩ := ho.form
          rw [List.length_replicate]
          have HV := Lib.hid hvi
          clear ho hb5 hvi hB4 HAI RA
          go_wp2_with fail
          go_loopw [17] (fun iv wr => ∃ k j : Nat, 1 ≤ k ∧ k ≤ i ∧ iv = .int .i64 (k : Int) ∧ wr = w5.drewN j) (fun iv _ => i - (intOf iv).toNat)
          case atStart => exact ⟨1, 0, by omega, hq1, rfl, rfl⟩
          case round =>
            obtain ⟨k, j, hk1, hki, rfl, rfl⟩ := hrel
            by_cases hkt : k < i
            · obtain ⟨b2, off2, rfl, hbb2, hc2⟩ := HV.out.2.2.2 (by rw [List.length_replicate]; omega)
              have c3 := hc2 k (by rw [List.length_replicate]; omega)
              have c4 := hc2 0 (by rw [List.length_replicate]; omega)
              rw [List.getElem?_replicate, if_pos hkt] at c3
              rw [List.getElem?_replicate, if_pos (by omega), Nat.add_zero] at c4
              change w5.cell? _ = some (.int .i64 y) at c3
              change w5.cell? _ = some (.int .i64 y) at c4
              have t5 : (y != y) = false := by simp
              clear hc2
              go_wp2_with fail
              go_region
              all_goals
                go_wp2_with fail
                go_roundw
                case rel => exact ⟨k + 1, j + 1, by omega, by omega, by first | rfl | go_num, by first | rfl | (simp only [World.drewN_drewN]; rfl)⟩
                case measure => simp [intOf]; omega
            · obtain rfl : k = i := by omega
              clear HV
              have hBX := Err.bdrewN HB5.out j
              generalize w5.drewN j = wx at hBX ⊢
              have HBX := Lib.hid hBX
              clear hBX HB5
              go_wp2_with fail
              refine (RG.out wx HBX.out).mono ?_; rintro e w12 ⟨⟨v, rfl, ho⟩, hb12⟩
              have hB12 := bcall HBX.out hb12
              obtain ⟨vp2, vc2, rfl, hvi2⟩ := ho.form
              rw [HRL.out]
              have HV2 := Lib.hid hvi2
              have HL2 := Lib.hid (HI.out.below hB12)
              have HB12 := Lib.hid hB12
              clear ho hb12 hvi2 hB12 RG
              go_wp2_with fail
              go_loopw [21] (fun iv wr => ∃ i j : Nat, i ≤ n ∧ iv = .int .i64 (i : Int) ∧ wr = w12.drewN j) (fun i _ => n - (intOf i).toNat)
              case atStart => exact ⟨0, 0, Nat.zero_le _, rfl, rfl⟩
              case round =>
                obtain ⟨i, j0, hin, rfl, rfl⟩ := hrel
                by_cases hlt : i < n
                · go_wp2_with fail
                  go_loopw [22] (fun kv wr => ∃ k j : Nat, k ≤ n ∧ kv = .int .i64 (k : Int) ∧ wr = w12.drewN j) (fun i _ => n - (intOf i).toNat)
                  case atStart => exact ⟨0, j0, Nat.zero_le _, rfl, rfl⟩
                  case round =>
                    obtain ⟨k, j, hkn, rfl, rfl⟩ := hrel
                    by_cases hkt : k < n
                    · obtain ⟨b1, off1, rfl, hbb1, hc1⟩ := HL2.out.2.2.2 (by have := HN.out; omega)
                      obtain ⟨b2, off2, rfl, hbb2, hc2⟩ := HV2.out.2.2.2 (by have := HRL.out; omega)
                      have c1 := hc1 i (by have := HN.out; omega)
                      have c2 := hc1 k (by have := HN.out; omega)
                      have c3 := hc2 i (by have := HRL.out; omega)
                      have c4 := hc2 k (by have := HRL.out; omega)
                      have HO := Lib.hid (ORD.out i k hlt hkt)
                      clear hc1 hc2
                      generalize l[i]?.getD 0 = x1 at c1 HO
                      generalize l[k]?.getD 0 = x2 at c2 HO
                      generalize m[i]?.getD 0 = x3 at c3 HO
                      generalize m[k]?.getD 0 = x4 at c4 HO
                      by_cases hx : x1 ≤ x2
                      · have t5 : decide (x1 ≤ x2) = true := decide_eq_true hx
                        have t6 : decide (x3 > x4) = false := decide_eq_false (by have := HO.out hx; omega)
                        go_wp2_with fail
                        go_quiet (fail)
                        go_wp2_with fail
                        go_roundw
                        case rel => exact ⟨k + 1, _, by omega, by first | rfl | go_num, by first | rfl | (simp only [World.drewN_drewN]; rfl)⟩
                        case measure => simp [intOf]; omega
                      · have t5 : decide (x1 ≤ x2) = false := decide_eq_false hx
                        go_wp2_with fail
                        go_quiet (fail)
                        go_wp2_with fail
                        go_roundw
                        case rel => exact ⟨k + 1, _, by omega, by first | rfl | go_num, by first | rfl | (simp only [World.drewN_drewN]; rfl)⟩
                        case measure => simp [intOf]; omega
                    · obtain rfl : k = n := by omega
                      go_wp2_with fail
                      go_roundw
                      case rel => exact ⟨i + 1, j, by omega, by first | rfl | go_num, by first | trivial | rfl⟩
                      case measure => simp [intOf]; omega
                · obtain rfl : i = n := by omega
                  go_wp2_with fail
                  go_ret
                  exact ⟨rfl, Err.bdrewN HB12.out j0⟩
        · obtain ⟨c9, hc9⟩ : ∃ c9, c9 = badR (List.replicate i x) room s := ⟨_, rfl⟩
          have RA := Lib.hid (run_bad ap ac i room s (List.replicate i x) wr (by rw [List.length_replicate]) HAI.out c9 hc9 (by rw [hc9]; exact hqb))
          clear hqb hc9
          go_wp2_with fail
          refine RA.out.mono ?_; rintro e w5 ⟨rfl, rfl⟩
          go_wp2_with fail
          go_ret
          exact ⟨rfl, hB4⟩
  · have INN := Lib.hid (in_any my 1 5 w1 false (in_false hmy))
    clear hmy
    refine INN.out.mono ?_; rintro e w2 ⟨rfl, rfl⟩
    clear INN
    go_wp2_with fail
    refine (RG.out w2 hb1).mono ?_; rintro e w12 ⟨⟨v, rfl, ho⟩, hb12⟩
    have hB12 := bcall hb1 hb12
    obtain ⟨vp2, vc2, rfl, hvi2⟩ := ho.form
    rw [HRL.out]
    have HV2 := Lib.hid hvi2
    have HL2 := Lib.hid (HI.out.below hB12)
    have HB12 := Lib.hid hB12
    clear ho hb12 hvi2 hB12 RG
    go_wp2_with fail
    go_loopw [21] (fun iv wr => ∃ i j : Nat, i ≤ n ∧ iv = .int .i64 (i : Int) ∧ wr = w12.drewN j) (fun i _ => n - (intOf i).toNat)
    case atStart => exact ⟨0, 0, Nat.zero_le _, rfl, rfl⟩
    case round =>
      obtain ⟨i, j0, hin, rfl, rfl⟩ := hrel
      by_cases hlt : i < n
      · go_wp2_with fail
        go_loopw [22] (fun kv wr => ∃ k j : Nat, k ≤ n ∧ kv = .int .i64 (k : Int) ∧ wr = w12.drewN j) (fun i _ => n - (intOf i).toNat)
        case atStart => exact ⟨0, j0, Nat.zero_le _, rfl, rfl⟩
        case round =>
          obtain ⟨k, j, hkn, rfl, rfl⟩ := hrel
          by_cases hkt : k < n
          · obtain ⟨b1, off1, rfl, hbb1, hc1⟩ := HL2.out.2.2.2 (by have := HN.out; omega)
            obtain ⟨b2, off2, rfl, hbb2, hc2⟩ := HV2.out.2.2.2 (by have := HRL.out; omega)
            have c1 := hc1 i (by have := HN.out; omega)
            have c2 := hc1 k (by have := HN.out; omega)
            have c3 := hc2 i (by have := HRL.out; omega)
            have c4 := hc2 k (by have := HRL.out; omega)
            have HO := Lib.hid (ORD.out i k hlt hkt)
            clear hc1 hc2
            generalize l[i]?.getD 0 = x1 at c1 HO
            generalize l[k]?.getD 0 = x2 at c2 HO
            generalize m[i]?.getD 0 = x3 at c3 HO
            generalize m[k]?.getD 0 = x4 at c4 HO
            by_cases hx : x1 ≤ x2
            · have t5 : decide (x1 ≤ x2) = true := decide_eq_true hx
              have t6 : decide (x3 > x4) = false := decide_eq_false (by have := HO.out hx; omega)
              go_wp2_with fail
              go_quiet (fail)
              go_wp2_with fail
              go_roundw
              case rel => exact ⟨k + 1, _, by omega, by first | rfl | go_num, by first | rfl | (simp only [World.drewN_drewN]; rfl)⟩
              case measure => simp [intOf]; omega
            · have t5 : decide (x1 ≤ x2) = false := decide_eq_false hx
              go_wp2_with fail
              go_quiet (fail)
              go_wp2_with fail
              go_roundw
              case rel => exact ⟨k + 1, _, by omega, by first | rfl | go_num, by first | rfl | (simp only [World.drewN_drewN]; rfl)⟩
              case measure => simp [intOf]; omega
          · obtain rfl : k = n := by omega
            go_wp2_with fail
            go_roundw
            case rel => exact ⟨i + 1, j, by omega, by first | rfl | go_num, by first | trivial | rfl⟩
            case measure => simp [intOf]; omega
      · obtain rfl : i = n := by omega
        go_wp2_with fail
        go_ret
        exact ⟨rfl, Err.bdrewN HB12.out j0⟩

theorem reads : Try.f5.params.toList.all (fun t => Try.prog.readableRec t && decide (t < Try.prog.types.size)) = true := by kernel_rfl

theorem contract (H : Type) (enc : TypeId × Value → H) (W : World) (base : Nat) (args : Array Value) (ds gs : List (DataW H)) (before : List MemPlace)
    (hval : ∀ (j : Nat) t v, Try.f5.params[j]? = some t → args[j]? = some v → Value.okWide Try.prog W .any base t v)
    (hW : DataW.Whole enc Try.prog Try.f5.params.toList Rows.aimdSameSpec.vars false W args.toList ds gs before) :
    Calls Try.prog 5 args W fun e W' => ∃ v, e = .returned v ∧ Rows.aimdSameSpec.post enc Try.prog Try.f5 false true false false W args v W' := by
  have hW' := hW
  obtain ⟨p, q, hA0, hV, rfl, hfz, hnd⟩ := hW
  have hA : DataW.TrodAll enc Try.prog W 0 (fun _ => true) true Try.f5.params.toList args.toList ds p := hA0
  have hlt := hA.lt
  rw [Try.params5] at hA hval
  obtain ⟨v0, vs0, d0, ds0, p0, q0, hargs, rfl, rfl, h0, r0⟩ := trodAll_cons hA
  obtain ⟨v1, vs1, d1, ds1, p1, q1, hvs1, rfl, rfl, h1, r1⟩ := trodAll_cons r0
  obtain ⟨v2, vs2, d2, ds2, p2, q2, hvs2, rfl, rfl, h2, r2⟩ := trodAll_cons r1
  obtain ⟨v3, vs3, d3, ds3, p3, q3, hvs3, rfl, rfl, h3, r3⟩ := trodAll_cons r2
  obtain ⟨v4, vs4, d4, ds4, p4, q4, hvs4, rfl, rfl, h4, r4⟩ := trodAll_cons r3
  obtain ⟨hvsn, rfl, rfl⟩ := trodAll_nil r4
  simp only [hvsn, hvs4, hvs3, hvs2, hvs1] at hargs
  obtain rfl : args = #[v0, v1, v2, v3, v4] := by cases args; simp_all
  obtain ⟨rfl, rfl⟩ := trodVars_none hV
  clear hA0
  obtain ⟨a0, rfl, rfl, rfl, w0⟩ := open_int Try.underlying3 (hval 0 3 v0 rfl rfl) h0
  have b0 := bounds_int w0
  obtain ⟨a1, rfl, rfl, rfl, w1⟩ := open_int Try.underlying3 (hval 1 3 v1 rfl rfl) h1
  have b1 := bounds_int w1
  obtain ⟨p2a, cap2, l2, rfl, i2⟩ := open_intsl Try.underlying22 Try.underlying3 (by kernel_rfl) (hval 2 22 v2 rfl rfl) h2 (fun x hx => hlt x (by simp [hx]))
  obtain ⟨a3, rfl, rfl, rfl, w3⟩ := open_int Try.underlying3 (hval 3 3 v3 rfl rfl) h3
  have b3 := bounds_int w3
  obtain ⟨a4, rfl, rfl, rfl, w4⟩ := open_int Try.underlying3 (hval 4 3 v4 rfl rfl) h4
  have b4 := bounds_int w4
  exact law_post 4 laid reads rfl Try.underlying4 rfl hW' ⟨rfl, rfl, rfl⟩ (by
    by_cases h : badR l2 a3 a4 = 0
    · obtain ⟨h1, h2, h3⟩ := badR_zero.1 h
      exact law_good a0 a1 w0 p2a cap2 l2 a3 a4 W i2 h1 ⟨h2, h3⟩
    · exact law_bad a0 a1 w0 p2a cap2 l2 a3 a4 W i2 h)

set_option maxRecDepth 100000 in
theorem lifted (os : Os) (started : os.Started) (H : Type) (enc : TypeId × Value → H) :
    ReturnsInHanded {} Try.checked os 5 .any (Rows.aimdSameSpec.pre6 enc Try.prog Try.f5 Rows.aimdSameRow.domain false) (Rows.aimdSameSpec.post enc Try.prog Try.f5 false true false false) := by
  refine returnsInHanded_of_change (C := Try.checked) own started (by kernel_rfl) Try.func5
    (ChangeSpec.witness6 (enc := enc) (C := Try.checked) false ⟨#[], #[.int .i64 0, .int .i64 0, .slice none 0 0, .int .i64 0, .int .i64 0], []⟩ 8 (by kernel_rfl) (by kernel_rfl) (by kernel_rfl) (by kernel_rfl)) ?_
  intro W base args ds gs before hval hW _ _
  exact contract H enc W base args ds gs before hval hW

theorem proved : Rows.AimdSameSaid :=
  OpenClaim.holds_of_wide 5 Try.f5 rfl rfl rfl rfl rfl rfl rfl ⟨rfl, rfl, rfl, rfl, rfl⟩ rfl rfl rfl rfl rfl (by kernel_rfl) Try.func5 (by kernel_rfl)
    (of_decide_eq_true (by kernel_rfl)) (by unfold Func.isWrapper; first | (rw [if_pos (by decide +kernel)]; kernel_rfl) | (rw [if_neg (by decide +kernel)]; exact ⟨rfl, rfl⟩))
    (fun os started H enc _ => lifted os started H enc)
end Go.Proofs.Ytbjoabggdhndmaa.aimdSameP
