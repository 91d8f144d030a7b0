/- Package spf: arrays as values; extend and nearest. No statement is proved here. -/
import Derived.Test.YtedhippamfioeaaDoorSpfMath
import Derived.Test.YtedhippamfioeaaDoorArr
import Derived.BigRegion
import Derived.BigQuiet
import Derived.Deep.MidRow
namespace Go.Proofs.YtedhippamfioeaaDoor.Spf
open Go.ChangeShapes Go.WideShapes Go.ChangeAt Go.RowKit Go.Proofs.YtedhippamfioeaaDoor.Kit Go.Proofs.YtedhippamfioeaaDoor.App Go.Proofs.YtedhippamfioeaaDoor.Err
set_option linter.unusedVariables false
set_option maxRecDepth 20000
set_option maxHeartbeats 1000000

/-- Eight numbers, eight truths. -/
def ints8 (f : Nat → Int) : List Value := ar 8 fun k => .int .i64 (f k)
def bools8 (S : Nat → Bool) : List Value := ar 8 fun k => .bool (S k)
/-- Costs and hops of all paths, each as one number. -/
def pv (K : Nat → Int) (k : Nat) : Value := .int .i64 (if k < 8 then K k / 16 else K (k - 8) % 16 - 1)
def pth (K : Nat → Int) : List Value := ar 16 (pv K)
abbrev Pth (w : World) (g : Nat) (K : Nat → Int) : Prop := Blk 71 w g (pth K)
theorem ar_len (n : Nat) (f : Nat → Value) : (ar n f).length = n := by simp [ar]
theorem index_arr {T e : TypeId} {n : Nat} (hu : Tryd.prog.underlying T = some (.array n e)) (he : ∀ w, (isAgg e).run Tryd.prog w = .ok false w) (hs : ∀ w, (sizeOf e).run Tryd.prog w = .ok 1 w) (f : Nat → Value) (k : Nat) (hk : k < n) (W : World) :
    (Instr.index T (.agg (ar n f).toArray) (.int .i64 (k : Int))).run Tryd.prog W = .ok (f k) W := by
  have h1 : (0 : Int) ≤ (k : Int) ∧ (k : Int) < (n : Int) := ⟨by omega, by omega⟩
  have h2 : (ar n f).toArray[k]? = some (f k) := by simpa using ar_get f hk
  simp only [Instr.index, asIntOf, Sem.run_bind, Sem.run_pure, Result.andThen_ok, run_underlying hu, if_pos h1, hs, part, he, Int.toNat_natCast, Nat.mul_one, h2, Bool.false_eq_true, if_false]
theorem index_ints (f : Nat → Int) (k : Nat) (hk : k < 8) (W : World) : (Instr.index 69 (.agg (ints8 f).toArray) (.int .i64 (k : Int))).run Tryd.prog W = .ok (.int .i64 (f k)) W :=
  index_arr Tryd.underlying69 Tryd.isAgg3 Tryd.sizeOf3 _ k hk W
theorem pth_far (K : Nat → Int) {k : Nat} (hk : k < 8) : (pth K)[k]? = some (.int .i64 (K k / 16)) := by
  unfold pth; rw [ar_get _ (by omega)]; unfold pv; rw [if_pos hk]
theorem pth_hop (K : Nat → Int) {k : Nat} (hk : k < 8) : (pth K)[8 + k]? = some (.int .i64 (K k % 16 - 1)) := by
  unfold pth; rw [ar_get _ (by omega)]; unfold pv; rw [if_neg (by omega), Nat.add_sub_cancel_left]
theorem pth_congr {K L : Nat → Int} (h : ∀ k, k < 8 → K k = L k) : pth K = pth L := ar_congr fun k hk => by
  unfold pv
  split
  · rename_i h1; rw [h k h1]
  · rw [h (k - 8) (by omega)]
theorem pth_set (K : Nat → Int) {j : Nat} (hj : j < 8) (d h : Int) (hh : -1 ≤ h ∧ h ≤ 14) : ((pth K).set j (.int .i64 d)).set (8 + j) (.int .i64 h) = pth fun k => if k = j then 16 * d + (h + 1) else K k := by
  unfold pth
  rw [ar_set, ar_set]
  refine ar_congr fun k hk => ?_
  unfold pv
  show _ = Value.int .i64 (if k < 8 then (if k = j then 16 * d + (h + 1) else K k) / 16 else (if k - 8 = j then 16 * d + (h + 1) else K (k - 8)) % 16 - 1)
  by_cases h1 : k = 8 + j
  · rw [if_pos h1, if_neg (by omega), if_pos (show k - 8 = j by omega)]
    congr 1; omega
  · rw [if_neg h1]
    by_cases h2 : k = j
    · rw [if_pos h2, if_pos (by omega), if_pos h2]
      congr 1; omega
    · rw [if_neg h2]
      by_cases h3 : k < 8
      · rw [if_pos h3, if_pos h3, if_neg h2]
      · rw [if_neg h3, if_neg h3, if_neg (by omega)]
theorem size8 (f : Nat → Value) : (Tryd.prog.info? 69).map (·.size) = some (ar 8 f).toArray.size := by
  rw [List.size_toArray, ar_len]; kernel_rfl

theorem ints8_lit (f : Nat → Int) : (ints8 f).toArray = #[.int .i64 (f 0), .int .i64 (f 1), .int .i64 (f 2), .int .i64 (f 3), .int .i64 (f 4), .int .i64 (f 5), .int .i64 (f 6), .int .i64 (f 7)] := rfl
theorem bools8_lit (f : Nat → Bool) : (bools8 f).toArray = #[.bool (f 0), .bool (f 1), .bool (f 2), .bool (f 3), .bool (f 4), .bool (f 5), .bool (f 6), .bool (f 7)] := rfl
theorem rlx_self {K c : Nat → Int} {u : Nat} (h : c u = 0) : rlx K u c u = K u := by unfold rlx; rw [if_pos h]
/-- What is known while the links of a node are gone through. -/
def half (K : Nat → Int) (u : Nat) (c : Nat → Int) (i : Nat) : Nat → Int := fun j => if j < i then rlx K u c j else K j
theorem extend_any (g u : Nat) (K : Nat → Int) (c : Nat → Int) (w : World) (hB : Pth w g K) (hu : u < 8) (hK : ∀ j, 0 ≤ K j ∧ K j ≤ 16000) (hc : ∀ j, 0 ≤ c j ∧ c j ≤ 1000) (hcu : c u = 0) :
    Calls Tryd.prog 38 #[.pointer (some ⟨g, 0, none⟩), .int .i64 (u : Int), .agg (ints8 c).toArray] w fun e w' => e = .returned (.tuple #[]) ∧ Pth w' g (rlx K u c) ∧ w.grownBy w' (some g) := by
  have HX := Lib.hid (index_ints c)
  have HB := Lib.hid hB
  have HK := Lib.hid hK
  have HC := Lib.hid hc
  have HCU := Lib.hid hcu
  have HGL := Lib.hid (Blk.lt hB)
  have hu' : (u : Int) < 8 := by omega
  rw [ints8_lit] at HX ⊢
  clear hB hK hc hcu
  go_enter Tryd.func38, Tryd.ntmps38
  go_wp2_with fail
  generalize (#[.int .i64 (c 0), .int .i64 (c 1), .int .i64 (c 2), .int .i64 (c 3), .int .i64 (c 4), .int .i64 (c 5), .int .i64 (c 6), .int .i64 (c 7)] : Array Value) = T at HX ⊢
  have HW0 := Lib.hid (show w.grownBy (w.alloc (.cells T 69)) (some g) from World.grownBy_alloc w _ _)
  have HB0 := Lib.hid (HB.out.alloc (.cells T 69))
  generalize w.alloc (.cells T 69) = w1 at HW0 HB0 ⊢
  go_loopw [11] (fun iv wr => ∃ i : Nat, i ≤ 8 ∧ iv = .int .i64 i ∧ Hid (Pth wr g (half K u c i)) ∧ Hid (w.grownBy wr (some g))) (fun i _ => 8 - (intOf i).toNat)
  case atStart => exact ⟨0, Nat.zero_le _, rfl, HB0, HW0⟩
  case round =>
    obtain ⟨i, hi, rfl, HP, HW⟩ := hrel
    clear HB0 HW0 HB
    by_cases hlt : i < 8
    · have t0 : decide ((i : Int) < 8) = true := decide_eq_true (by omega)
      have hlt' : (i : Int) < 8 := by omega
      have hix := HX.out i hlt
      have HN0 := Lib.hid (show ∀ x, x = rlx K u c i → pth (fun k => if k = i then x else half K u c i k) = pth (half K u c (i + 1)) from fun x hx => pth_congr fun k _ => by
        unfold half
        by_cases h : k = i
        · rw [if_pos h, if_pos (by omega), hx, h]
        · rw [if_neg h]
          by_cases h2 : k < i
          · rw [if_pos h2, if_pos (by omega)]
          · rw [if_neg h2, if_neg (by omega)])
      have HN1 := Lib.hid (show K i = rlx K u c i → pth (half K u c i) = pth (half K u c (i + 1)) from fun hx => pth_congr fun k _ => by
        unfold half
        by_cases h : k = i
        · rw [h, if_neg (Nat.lt_irrefl i), if_pos (by omega), hx]
        · by_cases h2 : k < i
          · rw [if_pos h2, if_pos (by omega)]
          · rw [if_neg h2, if_neg (by omega)])
      have hki : half K u c i i = K i := by unfold half; rw [if_neg (Nat.lt_irrefl i)]
      have hku : half K u c i u = K u := by
        unfold half
        split
        · exact rlx_self HCU.out
        · rfl
      have c0 := Blk.cell HP.out i _ (pth_far _ hlt)
      have c1 := Blk.cell HP.out (8 + i) _ (pth_hop _ hlt)
      have c2 := Blk.cell HP.out u _ (pth_far _ hu)
      have c3 := Blk.cell HP.out (8 + u) _ (pth_hop _ hu)
      rw [hki] at c0 c1
      rw [hku] at c2 c3
      have f0 := Blk.fz HP.out i
      have b1 := HK.out i
      have b2 := HK.out u
      have b3 := HC.out i
      by_cases hz : c i = 0
      · have t1 : (c i == 0) = true := by rw [hz]; rfl
        have HP2 := Lib.hid (show Pth wr g (half K u c (i + 1)) from by
          have := HP.out
          unfold Pth at this ⊢
          rwa [HN1.out (by unfold rlx; rw [if_pos hz])] at this)
        clear hz c0 c1 c2 c3 f0 b1 b2 b3
        go_wp2_with fail
        go_roundw
        case rel => exact ⟨i + 1, by omega, by first | rfl | go_num, HP2, HW⟩
        case measure => simp [intOf]; omega
      · have t1 : (c i == 0) = false := beq_eq_false_iff_ne.2 hz
        have HRL := Lib.hid (show rlx K u c i = min (K i) (cand K u (c i) i) from if_neg hz)
        unfold cand at HRL
        obtain ⟨h, hh⟩ : ∃ h, K u % 16 - 1 = h := ⟨_, rfl⟩
        obtain ⟨d, hd⟩ : ∃ d, K u / 16 = d := ⟨_, rfl⟩
        obtain ⟨h2, hh2⟩ : ∃ h, K i % 16 - 1 = h := ⟨_, rfl⟩
        obtain ⟨d2, hd2⟩ : ∃ d, K i / 16 = d := ⟨_, rfl⟩
        obtain ⟨s, hs⟩ : ∃ s, d + c i = s := ⟨_, rfl⟩
        rw [hh] at c3 HRL
        rw [hd] at c2 HRL
        rw [hh2] at c1
        rw [hd2] at c0
        rw [hs] at HRL
        have hwr : IntKind.i64.wrap (d + c i) = s := by rw [← hs]; exact wrap_in ⟨by omega, by omega⟩
        have hnew : (decide (h < 0) = true ∧ rlx K u c i = min (16 * d2 + (h2 + 1)) (16 * s + ((i : Int) + 1))) ∨ (decide (h < 0) = false ∧ rlx K u c i = min (16 * d2 + (h2 + 1)) (16 * s + (h + 1))) := by
          by_cases e : h < 0
          · refine .inl ⟨decide_eq_true e, ?_⟩
            rw [HRL.out, if_pos e]; congr 1; omega
          · refine .inr ⟨decide_eq_false e, ?_⟩
            rw [HRL.out, if_neg e]; congr 1 <;> omega
        have hdh : K i = 16 * d2 + (h2 + 1) := by omega
        have hbh : -1 ≤ h ∧ h ≤ 14 := by omega
        have hbh2 : -1 ≤ h2 ∧ h2 ≤ 14 := by omega
        have HD := Lib.hid hdh
        rcases hnew with ⟨t2, hn⟩ | ⟨t2, hn⟩
        ·
          by_cases e1 : s < d2
          · have t3 : decide (s < d2) = true := decide_eq_true e1
            have HP3 := Lib.hid (fun m => show Pth (((wr.drewN m).setCell ⟨g, i, none⟩ (.int .i64 s)).setCell ⟨g, 8 + i, none⟩ (.int .i64 (i : Int))) g (half K u c (i + 1)) from by
              have h1 := Blk.set (Blk.set (Blk.drewN HP.out m) i (.int .i64 s)) (8 + i) (.int .i64 (i : Int))
              rwa [pth_set _ hlt _ _ (by omega), HN0.out _ (by rw [hn]; omega)] at h1)
            have HW3 := Lib.hid (fun m => show w.grownBy (((wr.drewN m).setCell ⟨g, i, none⟩ (.int .i64 s)).setCell ⟨g, 8 + i, none⟩ (.int .i64 (i : Int))) (some g) from grown_set (grown_set (grown_drewN HW.out m) i _) (8 + i) _)
            have f4 := Blk.fz HP.out (8 + i)
            clear hh hd hh2 hd2 hs hdh hbh hbh2 hn b1 b2 b3 hz hki hku e1
            go_wp2_with fail
            go_quiet (fail)
            go_wp2_with fail
            go_region
            go_wp2_with fail
            go_roundw
            case rel => exact ⟨i + 1, by omega, by first | rfl | go_num, Lib.hid (HP3.out _), Lib.hid (HW3.out _)⟩
            case measure => simp [intOf]; omega
          · have t3 : decide (s < d2) = false := decide_eq_false e1
            by_cases e2 : s = d2
            · have t4 : (s == d2) = true := by rw [beq_iff_eq]; exact e2
              by_cases e3 : (i : Int) < h2
              · have t5 : decide ((i : Int) < h2) = true := decide_eq_true e3
                have HP3 := Lib.hid (fun m => show Pth (((wr.drewN m).setCell ⟨g, i, none⟩ (.int .i64 s)).setCell ⟨g, 8 + i, none⟩ (.int .i64 (i : Int))) g (half K u c (i + 1)) from by
                  have h1 := Blk.set (Blk.set (Blk.drewN HP.out m) i (.int .i64 s)) (8 + i) (.int .i64 (i : Int))
                  rwa [pth_set _ hlt _ _ (by omega), HN0.out _ (by rw [hn]; omega)] at h1)
                have HW3 := Lib.hid (fun m => show w.grownBy (((wr.drewN m).setCell ⟨g, i, none⟩ (.int .i64 s)).setCell ⟨g, 8 + i, none⟩ (.int .i64 (i : Int))) (some g) from grown_set (grown_set (grown_drewN HW.out m) i _) (8 + i) _)
                have f4 := Blk.fz HP.out (8 + i)
                clear hh hd hh2 hd2 hs hdh hbh hbh2 hn b1 b2 b3 hz hki hku e1 e2 e3
                go_wp2_with fail
                go_quiet (fail)
                go_wp2_with fail
                go_region
                go_wp2_with fail
                go_roundw
                case rel => exact ⟨i + 1, by omega, by first | rfl | go_num, Lib.hid (HP3.out _), Lib.hid (HW3.out _)⟩
                case measure => simp [intOf]; omega
              · have t5 : decide ((i : Int) < h2) = false := decide_eq_false e3
                have HP2 := Lib.hid (show Pth wr g (half K u c (i + 1)) from by
                  have h1 := HP.out
                  unfold Pth at h1 ⊢
                  rwa [HN1.out (by rw [hn]; omega)] at h1)
                have HW2 := Lib.hid (fun k => grown_drewN HW.out k)
                clear hh hd hh2 hd2 hs hdh hbh hbh2 hn b1 b2 b3 hz hki hku HP HN0 HN1 e1 e2 e3
                go_wp2_with fail
                go_quiet (fail)
                go_wp2_with fail
                go_roundw
                case rel => exact ⟨i + 1, by omega, by first | rfl | go_num, HP2, Lib.hid (HW2.out _)⟩
                case measure => simp [intOf]; omega
            · have t4 : (s == d2) = false := beq_eq_false_iff_ne.2 e2
              have HP2 := Lib.hid (show Pth wr g (half K u c (i + 1)) from by
                have h1 := HP.out
                unfold Pth at h1 ⊢
                rwa [HN1.out (by rw [hn]; omega)] at h1)
              have HW2 := Lib.hid (fun k => grown_drewN HW.out k)
              clear hh hd hh2 hd2 hs hdh hbh hbh2 hn b1 b2 b3 hz hki hku HP HN0 HN1 e1 e2
              go_wp2_with fail
              go_quiet (fail)
              go_wp2_with fail
              go_roundw
              case rel => exact ⟨i + 1, by omega, by first | rfl | go_num, HP2, Lib.hid (HW2.out _)⟩
              case measure => simp [intOf]; omega
        ·
          by_cases e1 : s < d2
          · have t3 : decide (s < d2) = true := decide_eq_true e1
            have HP3 := Lib.hid (fun m => show Pth (((wr.drewN m).setCell ⟨g, i, none⟩ (.int .i64 s)).setCell ⟨g, 8 + i, none⟩ (.int .i64 h)) g (half K u c (i + 1)) from by
              have h1 := Blk.set (Blk.set (Blk.drewN HP.out m) i (.int .i64 s)) (8 + i) (.int .i64 h)
              rwa [pth_set _ hlt _ _ (by omega), HN0.out _ (by rw [hn]; omega)] at h1)
            have HW3 := Lib.hid (fun m => show w.grownBy (((wr.drewN m).setCell ⟨g, i, none⟩ (.int .i64 s)).setCell ⟨g, 8 + i, none⟩ (.int .i64 h)) (some g) from grown_set (grown_set (grown_drewN HW.out m) i _) (8 + i) _)
            have f4 := Blk.fz HP.out (8 + i)
            clear hh hd hh2 hd2 hs hdh hbh hbh2 hn b1 b2 b3 hz hki hku e1
            go_wp2_with fail
            go_quiet (fail)
            go_wp2_with fail
            go_region
            go_wp2_with fail
            go_roundw
            case rel => exact ⟨i + 1, by omega, by first | rfl | go_num, Lib.hid (HP3.out _), Lib.hid (HW3.out _)⟩
            case measure => simp [intOf]; omega
          · have t3 : decide (s < d2) = false := decide_eq_false e1
            by_cases e2 : s = d2
            · have t4 : (s == d2) = true := by rw [beq_iff_eq]; exact e2
              by_cases e3 : h < h2
              · have t5 : decide (h < h2) = true := decide_eq_true e3
                have HP3 := Lib.hid (fun m => show Pth (((wr.drewN m).setCell ⟨g, i, none⟩ (.int .i64 s)).setCell ⟨g, 8 + i, none⟩ (.int .i64 h)) g (half K u c (i + 1)) from by
                  have h1 := Blk.set (Blk.set (Blk.drewN HP.out m) i (.int .i64 s)) (8 + i) (.int .i64 h)
                  rwa [pth_set _ hlt _ _ (by omega), HN0.out _ (by rw [hn]; omega)] at h1)
                have HW3 := Lib.hid (fun m => show w.grownBy (((wr.drewN m).setCell ⟨g, i, none⟩ (.int .i64 s)).setCell ⟨g, 8 + i, none⟩ (.int .i64 h)) (some g) from grown_set (grown_set (grown_drewN HW.out m) i _) (8 + i) _)
                have f4 := Blk.fz HP.out (8 + i)
                clear hh hd hh2 hd2 hs hdh hbh hbh2 hn b1 b2 b3 hz hki hku e1 e2 e3
                go_wp2_with fail
                go_quiet (fail)
                go_wp2_with fail
                go_region
                go_wp2_with fail
                go_roundw
                case rel => exact ⟨i + 1, by omega, by first | rfl | go_num, Lib.hid (HP3.out _), Lib.hid (HW3.out _)⟩
                case measure => simp [intOf]; omega
              · have t5 : decide (h < h2) = false := decide_eq_false e3
                have HP2 := Lib.hid (show Pth wr g (half K u c (i + 1)) from by
                  have h1 := HP.out
                  unfold Pth at h1 ⊢
                  rwa [HN1.out (by rw [hn]; omega)] at h1)
                have HW2 := Lib.hid (fun k => grown_drewN HW.out k)
                clear hh hd hh2 hd2 hs hdh hbh hbh2 hn b1 b2 b3 hz hki hku HP HN0 HN1 e1 e2 e3
                go_wp2_with fail
                go_quiet (fail)
                go_wp2_with fail
                go_roundw
                case rel => exact ⟨i + 1, by omega, by first | rfl | go_num, HP2, Lib.hid (HW2.out _)⟩
                case measure => simp [intOf]; omega
            · have t4 : (s == d2) = false := beq_eq_false_iff_ne.2 e2
              have HP2 := Lib.hid (show Pth wr g (half K u c (i + 1)) from by
                have h1 := HP.out
                unfold Pth at h1 ⊢
                rwa [HN1.out (by rw [hn]; omega)] at h1)
              have HW2 := Lib.hid (fun k => grown_drewN HW.out k)
              clear hh hd hh2 hd2 hs hdh hbh hbh2 hn b1 b2 b3 hz hki hku HP HN0 HN1 e1 e2
              go_wp2_with fail
              go_quiet (fail)
              go_wp2_with fail
              go_roundw
              case rel => exact ⟨i + 1, by omega, by first | rfl | go_num, HP2, Lib.hid (HW2.out _)⟩
              case measure => simp [intOf]; omega
    · obtain rfl : i = 8 := by omega
      have HP2 := Lib.hid (show Pth wr g (rlx K u c) from by
        have := HP.out
        unfold Pth at this ⊢
        rwa [pth_congr (L := rlx K u c) (fun k hk => by unfold half; rw [if_pos hk])] at this)
      go_wp2_with fail
      refine bodyPost_end (results_none rfl _ _ _) rfl ?_
      exact ⟨rfl, HP2.out, HW.out⟩
end Go.Proofs.YtedhippamfioeaaDoor.Spf
