/- The contract of the document's Find of routes. No statement is proved here. -/
import Derived.Test.YtapaglapngbbpaaDoorRdrop
import Derived.Test.YtapaglapngbbpaaDoorFindMath
import Derived.Test.YtapaglapngbbpaaDoorCidrIn
namespace Go.Proofs.YtapaglapngbbpaaDoor.Route
open Go.ChangeShapes Go.WideShapes Go.ChangeAt Go.RowKit Go.Sort Go.Proofs.YtapaglapngbbpaaDoor.Kit Go.Proofs.YtapaglapngbbpaaDoor.App Go.Proofs.YtapaglapngbbpaaDoor.Cells Go.Proofs.YtapaglapngbbpaaDoor.Cidr Go.Proofs.YtapaglapngbbpaaDoor.CidrMath Go.Proofs.YtapaglapngbbpaaDoor.RouteMath
set_option linter.unusedVariables false
set_option maxRecDepth 20000

theorem rfind_out (q : Option Addr) (cap n : Nat) (a : Int) (w : World) (ha : ¬ (0 ≤ a ∧ a ≤ 65535)) :
    Calls Tryd.prog 20 #[.agg #[.slice q n cap], .int .i64 a] w fun e w' => e = .returned (.tuple #[.int .i64 0, .int .i64 0, .int .i64 1]) ∧ Gr w w' := by
  have IN := Lib.hid (fun W => rin a 0 65535 W false (by
    by_cases h : 0 ≤ a
    · rw [decide_eq_true h, decide_eq_false (show ¬ a ≤ 65535 by omega)]; rfl
    · rw [decide_eq_false h]; rfl))
  clear ha
  go_enter Tryd.func20, Tryd.ntmps20
  go_wp2_with fail
  refine (IN.out _).mono ?_; rintro e w1 ⟨rfl, rfl⟩
  go_wp2_with fail
  go_ret3
  exact ⟨rfl, 0, _, by rw [alloc_eq_grow]; rfl⟩
/-- Which route the fold holds, by its place. -/
def Held (l : List Rt) (a k : Nat) (bz : Int) : Prop := (bz = -1 ∧ findR (l.take k) a = none) ∨ ∃ j : Nat, bz = (j : Int) ∧ j < k ∧ ∃ x, l[j]? = some x ∧ findR (l.take k) a = some x
set_option maxHeartbeats 4000000 in
theorem rfind_in (q : Option Addr) (cap n : Nat) (l : List Rt) (a : Nat) (w : World) (hn : n = l.length) (hc : CI layR w q cap l) (hg : ∀ x ∈ l, CidrMath.Good (key x)) (ha : a ≤ 65535) (rh rl rc : Int) (hR : match findR l a with | none => rh = 0 ∧ rl = 0 ∧ rc = 5 | some x => rh = x.hop ∧ rl = x.len ∧ rc = 0) :
    Calls Tryd.prog 20 #[.agg #[.slice q n cap], .int .i64 (a : Int)] w fun e w' => e = .returned (.tuple #[.int .i64 rh, .int .i64 rl, .int .i64 rc]) ∧ Gr w w' := by
  have hl := hc.len_le
  have IN := Lib.hid (fun W => rin (a : Int) 0 65535 W true (by rw [decide_eq_true (show (0 : Int) ≤ (a : Int) by omega), decide_eq_true (show (a : Int) ≤ 65535 by omega)]; rfl))
  have RI := Lib.hid (fun (x : Rt) (hx : x ∈ l) R hR W => rIn_any (key x) (hg x hx) (a : Int) ⟨by omega, by omega⟩ W R hR)
  obtain ⟨T, hT⟩ : ∃ T, T = w.alloc (.cells #[.slice q n cap] 47) := ⟨_, rfl⟩
  have hGT : Gr w T := ⟨0, _, by rw [hT, alloc_eq_grow]; rfl⟩
  have hs0 : w.heap.size < T.heap.size := by rw [hT]; simp
  have c0 : T.cell? ⟨w.heap.size, 0, none⟩ = some (.slice q n cap) := by rw [hT]; exact new_slice w q n cap _
  have hCT := hc.below hGT.below
  have HF := Lib.hid (fun W (h : Gr T W) => (show (w.heap.size < W.heap.size ∧ W.cell? ⟨w.heap.size, 0, none⟩ = some (.slice q n cap)) ∧ CI layR W q cap l from
    ⟨⟨Nat.lt_of_lt_of_le hs0 h.below.size, (h.below.cell (p := ⟨w.heap.size, 0, none⟩) hs0).trans c0⟩, hCT.below h.below⟩))
  have hmix := mixed
  have HGT := Lib.hid hGT
  have HN := Lib.hid hn
  have HRR := Lib.hid hR
  have hln : n ≤ 9223372036854775807 := by omega
  clear hGT hCT hn hc hl c0 hs0 hR hg
  go_enter Tryd.func20, Tryd.ntmps20
  go_wp2_with fail
  refine (IN.out _).mono ?_; rintro e w1 ⟨rfl, rfl⟩
  rw [← hT]
  clear hT
  generalize w.heap.size = pb at *
  go_wp2_with fail
  go_loopw [7, 8] (fun bv iv wr => ∃ (k : Nat) (bz : Int), bv = .int .i64 bz ∧ iv = .int .i64 k ∧ k ≤ n ∧ Hid (Held l a k bz) ∧ Gr T wr) (fun _ i _ => n - (intOf i).toNat)
  case atStart => exact ⟨0, -1, rfl, by rfl, Nat.zero_le _, .inl ⟨rfl, rfl⟩, Gr.refl T⟩
  case round =>
    obtain ⟨k, bz, rfl, rfl, hk, HK, hG⟩ := hrel
    obtain ⟨⟨hpw, c0⟩, hCw⟩ := HF.out wr hG
    have gs := fun n os => cell_grown (a := ⟨pb, 0, none⟩) hpw c0 n os
    by_cases hlt : k < n
    · have hkl : k < l.length := by rw [← HN.out]; exact hlt
      obtain ⟨bb, off, rfl, hbw, hcell⟩ := hCw.2.2 (by omega)
      obtain ⟨x, hx⟩ : ∃ x, l[k]? = some x := ⟨_, List.getElem?_eq_getElem hkl⟩
      have gx0 := fun n os => cell_grown (a := ⟨bb, off + k * 3, none⟩) hbw (hcell k x hx 0 _ rfl) n os
      have gx1 := fun n os => cell_grown (a := ⟨bb, off + k * 3 + 1, none⟩) hbw (hcell k x hx 1 _ rfl) n os
      have i0 : (0 : Int) ≤ (k : Int) := by omega
      have i1 : (k : Int) < (n : Int) := by omega
      have hft := find_take l k x hx a
      have RIx := fun R hR W => RI.out x (List.mem_of_getElem? hx) R hR W
      unfold key at RIx
      simp only at RIx
      by_cases hin : has (key x) a
      · have hcg := fun n os => RIx true ⟨fun _ => hin, fun _ => rfl⟩ (grow (wr.drewN n) os)
        rcases HK.out with ⟨hb, hf⟩ | ⟨j, hb, hj, y, hy, hf⟩
        · have HK2 : Hid (Held l a (k + 1) (k : Int)) := .inr ⟨k, rfl, by omega, x, hx, by rw [hft, hf]; unfold better; rw [if_pos hin]⟩
          subst hb
          clear RIx hft hf hin hx hkl hcell hCw HK
          go_wp2_with fail
          refine wp_region_quiet_grown (by assumption) (by kernel_rfl) ?_
          repeat (first | go_big_quiet_step (refine Calls.grown_of (hcg _ _)) | quiet_step (refine Calls.grown_of (hcg _ _)))
          refine wpQuiet_nil ?_
          intro _ hw'
          obtain ⟨⟨nq, osq⟩, hw''⟩ := hw'
          subst hw''
          go_wp2_with fail
          go_roundw
          case rel => exact ⟨k + 1, _, rfl, by first | rfl | go_num, by omega, HK2, hG.trans (show Gr wr (grow (wr.drewN nq) osq) from ⟨nq, osq, rfl⟩)⟩
          case measure => simp [intOf]; omega
        · have gy0 := fun n os => cell_grown (a := ⟨bb, off + j * 3, none⟩) hbw (hcell j y hy 0 _ rfl) n os
          have gy1 := fun n os => cell_grown (a := ⟨bb, off + j * 3 + 1, none⟩) hbw (hcell j y hy 1 _ rfl) n os
          subst hb
          have t0 : decide ((j : Int) < 0) = false := decide_eq_false (by omega)
          have j0 : (0 : Int) ≤ (j : Int) := by omega
          have j1 : (j : Int) < (n : Int) := by omega
          by_cases hlen : y.len < x.len
          · have t1 : decide (x.len > y.len) = true := decide_eq_true hlen
            have t1' : decide (y.len < x.len) = true := decide_eq_true hlen
            have HK2 : Hid (Held l a (k + 1) (k : Int)) := .inr ⟨k, rfl, by omega, x, hx, by rw [hft, hf]; unfold better; rw [if_pos hin]; simp only; rw [if_pos hlen]⟩
            clear RIx hft hf hin hx hy hkl hcell hCw HK hlen
            go_wp2_with fail
            refine wp_region_quiet_grown (by assumption) (by kernel_rfl) ?_
            repeat (first | go_big_quiet_step (refine Calls.grown_of (hcg _ _)) | quiet_step (refine Calls.grown_of (hcg _ _)))
            refine wpQuiet_nil ?_
            intro _ hw'
            obtain ⟨⟨nq, osq⟩, hw''⟩ := hw'
            subst hw''
            go_wp2_with fail
            go_roundw
            case rel => exact ⟨k + 1, _, rfl, by first | rfl | go_num, by omega, HK2, hG.trans (show Gr wr (grow (wr.drewN nq) osq) from ⟨nq, osq, rfl⟩)⟩
            case measure => simp [intOf]; omega
          · have t1 : decide (x.len > y.len) = false := decide_eq_false hlen
            have t1' : decide (y.len < x.len) = false := decide_eq_false hlen
            have HK2 : Hid (Held l a (k + 1) (j : Int)) := .inr ⟨j, rfl, by omega, y, hy, by rw [hft, hf]; unfold better; rw [if_pos hin]; simp only; rw [if_neg hlen]⟩
            clear RIx hft hf hin hx hy hkl hcell hCw HK hlen
            go_wp2_with fail
            refine wp_region_quiet_grown (by assumption) (by kernel_rfl) ?_
            repeat (first | go_big_quiet_step (refine Calls.grown_of (hcg _ _)) | quiet_step (refine Calls.grown_of (hcg _ _)))
            refine wpQuiet_nil ?_
            intro _ hw'
            obtain ⟨⟨nq, osq⟩, hw''⟩ := hw'
            subst hw''
            go_wp2_with fail
            go_roundw
            case rel => exact ⟨k + 1, _, rfl, by first | rfl | go_num, by omega, HK2, hG.trans (show Gr wr (grow (wr.drewN nq) osq) from ⟨nq, osq, rfl⟩)⟩
            case measure => simp [intOf]; omega
      · have hcg := fun n os => RIx false ⟨fun h => by simp at h, fun h => absurd h hin⟩ (grow (wr.drewN n) os)
        have HK2 : Hid (Held l a (k + 1) bz) := by
          have hbt : findR (l.take (k + 1)) a = findR (l.take k) a := by rw [hft]; unfold better; rw [if_neg hin]
          rcases HK.out with ⟨hb, hf⟩ | ⟨j, hb, hj, y, hy, hf⟩
          · exact .inl ⟨hb, by rw [hbt]; exact hf⟩
          · exact .inr ⟨j, hb, by omega, y, hy, by rw [hbt]; exact hf⟩
        clear RIx hft hin hx hkl hcell hCw HK
        go_wp2_with fail
        refine wp_region_quiet_grown (by assumption) (by kernel_rfl) ?_
        repeat (first | go_big_quiet_step (refine Calls.grown_of (hcg _ _)) | quiet_step (refine Calls.grown_of (hcg _ _)))
        refine wpQuiet_nil ?_
        intro _ hw'
        obtain ⟨⟨nq, osq⟩, hw''⟩ := hw'
        subst hw''
        go_wp2_with fail
        go_roundw
        case rel => exact ⟨k + 1, _, rfl, by first | rfl | go_num, by omega, HK2, hG.trans (show Gr wr (grow (wr.drewN nq) osq) from ⟨nq, osq, rfl⟩)⟩
        case measure => simp [intOf]; omega
    · obtain rfl : k = n := by omega
      have hta : l.take k = l := List.take_of_length_le (by rw [← HN.out]; exact Nat.le_refl _)
      have hR := HRR.out
      rcases HK.out with ⟨hb, hf⟩ | ⟨j, hb, hj, y, hy, hf⟩
      · rw [hta] at hf
        rw [hf] at hR
        obtain ⟨rfl, rfl, rfl⟩ := hR
        subst hb
        clear hf
        go_wp2_with fail
        go_ret3
        exact ⟨rfl, HGT.out.trans hG⟩
      · rw [hta] at hf
        rw [hf] at hR
        obtain ⟨rfl, rfl, rfl⟩ := hR
        subst hb
        obtain ⟨bb, off, rfl, hbw, hcell⟩ := hCw.2.2 (by rw [← HN.out]; omega)
        have gy1 := fun n os => cell_grown (a := ⟨bb, off + j * 3 + 1, none⟩) hbw (hcell j y hy 1 _ rfl) n os
        have gy2 := fun n os => cell_grown (a := ⟨bb, off + j * 3 + 2, none⟩) hbw (hcell j y hy 2 _ rfl) n os
        have t0 : decide ((j : Int) < 0) = false := decide_eq_false (by omega)
        have j0 : (0 : Int) ≤ (j : Int) := by omega
        have j1 : (j : Int) < (k : Int) := by omega
        clear hf hta hy hcell hCw HK
        go_wp2_with fail
        refine wp_region_quiet_grown (by assumption) (by kernel_rfl) ?_
        repeat (first | go_big_quiet_step (fail) | quiet_step (fail))
        refine wpQuiet_nil ?_
        intro _ hw'
        obtain ⟨⟨nq, osq⟩, hw''⟩ := hw'
        subst hw''
        go_wp2_with fail
        go_ret3
        exact ⟨rfl, HGT.out.trans (hG.trans ⟨nq, osq, rfl⟩)⟩
end Go.Proofs.YtapaglapngbbpaaDoor.Route

