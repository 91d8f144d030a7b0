/- Package rpf: what Flood's function sends. No statement is proved here. -/
import Derived.Test.YtedhippamfioeaaDoorRpfPut
import Derived.Test.YtedhippamfioeaaDoorRpfNbr
namespace Go.Proofs.YtedhippamfioeaaDoor.Rpf
open Go.ChangeShapes Go.WideShapes Go.ChangeAt Go.RowKit Go.Proofs.YtedhippamfioeaaDoor.Kit Go.Proofs.YtedhippamfioeaaDoor.App Go.Proofs.YtedhippamfioeaaDoor.Cells Go.Proofs.YtedhippamfioeaaDoor.Err Go.Proofs.YtedhippamfioeaaDoor.Vector Go.Proofs.YtedhippamfioeaaDoor.Spf
set_option linter.unusedVariables false
set_option maxRecDepth 20000
set_option maxHeartbeats 1000000

theorem index_bools (f : Nat → Bool) (k : Nat) (hk : k < 8) (W : World) : (Instr.index 44 (.agg (bools8 f).toArray) (.int .i64 (k : Int))).run Tryd.prog W = .ok (.bool (f k)) W :=
  index_arr Tryd.underlying44 Tryd.isAgg4 Tryd.sizeOf4 _ k hk W
theorem send_any (ls : List Lk) (p : Nat) (x : Int) (bj b : Nat) (v : Value) (F : List Sd) (w : World) (hj : Blk 45 w bj (jar (jn ls))) (hq : Qs w b v F) (hp : p < 8) (hF : F.length ≤ 900) :
    Calls Tryd.prog 18 #[.int .i64 (p : Int), .int .i64 x, .pointer (some ⟨bj, 0, none⟩), .pointer (some ⟨b, 0, none⟩)] w fun e w' => e = .returned (.tuple #[]) ∧ ∃ v', Qs w' b v' (F ++ snd ls p x 8) ∧ Mv b v w v' w' := by
  have HX := Lib.hid (index_bools (jn ls p))
  have HQ := Lib.hid hq
  have HF := Lib.hid hF
  have hp' : (p : Int) < 8 := by omega
  have n0 : w.cell? ⟨bj, p * 8, none⟩ = some (.bool (jn ls p 0)) := hj.cell (p * 8 + 0) _ (jar_get _ hp (by decide))
  have n1 : w.cell? ⟨bj, p * 8 + 1, none⟩ = some (.bool (jn ls p 1)) := hj.cell (p * 8 + 1) _ (jar_get _ hp (by decide))
  have n2 : w.cell? ⟨bj, p * 8 + 2, none⟩ = some (.bool (jn ls p 2)) := hj.cell (p * 8 + 2) _ (jar_get _ hp (by decide))
  have n3 : w.cell? ⟨bj, p * 8 + 3, none⟩ = some (.bool (jn ls p 3)) := hj.cell (p * 8 + 3) _ (jar_get _ hp (by decide))
  have n4 : w.cell? ⟨bj, p * 8 + 4, none⟩ = some (.bool (jn ls p 4)) := hj.cell (p * 8 + 4) _ (jar_get _ hp (by decide))
  have n5 : w.cell? ⟨bj, p * 8 + 5, none⟩ = some (.bool (jn ls p 5)) := hj.cell (p * 8 + 5) _ (jar_get _ hp (by decide))
  have n6 : w.cell? ⟨bj, p * 8 + 6, none⟩ = some (.bool (jn ls p 6)) := hj.cell (p * 8 + 6) _ (jar_get _ hp (by decide))
  have n7 : w.cell? ⟨bj, p * 8 + 7, none⟩ = some (.bool (jn ls p 7)) := hj.cell (p * 8 + 7) _ (jar_get _ hp (by decide))
  rw [bools8_lit] at HX
  clear hq hj hF
  go_enter Tryd.func18, Tryd.ntmps18
  go_wp2_with fail
  clear n0 n1 n2 n3 n4 n5 n6 n7
  generalize (#[.bool (jn ls p 0), .bool (jn ls p 1), .bool (jn ls p 2), .bool (jn ls p 3), .bool (jn ls p 4), .bool (jn ls p 5), .bool (jn ls p 6), .bool (jn ls p 7)] : Array Value) = T at HX ⊢
  go_loopw [11] (fun iv wr => ∃ (k : Nat) (vk : Value), k ≤ 8 ∧ iv = .int .i64 k ∧ Hid (Qs wr b vk (F ++ snd ls p x k)) ∧ Hid (Mv b v w vk wr)) (fun i _ => 8 - (intOf i).toNat)
  case atStart => exact ⟨0, v, Nat.zero_le _, rfl, Lib.hid (by rw [show snd ls p x 0 = [] from rfl, List.append_nil]; exact HQ.out), Lib.hid (Mv.refl _ _ _)⟩
  case round =>
    obtain ⟨k, vk, hk, rfl, HQK, HM⟩ := hrel
    clear HQ
    by_cases hlt : k < 8
    · have t0 : decide ((k : Int) < 8) = true := decide_eq_true (by omega)
      have hlt' : (k : Int) < 8 := by omega
      have hix := HX.out k hlt
      by_cases hc : co ls p k ≠ 1000
      · have hjn : jn ls p k = true := decide_eq_true hc
        rw [hjn] at hix
        by_cases he : (k : Int) ≠ x
        · have t1 : ((k : Int) != x) = true := by rw [bne_iff_ne]; exact he
          have C := Lib.hid (fun W h => put_any b vk (F ++ snd ls p x k) ⟨p, k⟩ W h (by have h1 := snd_le (ls := ls) p x k; have h2 := HF.out; rw [List.length_append]; omega))
          have hsn := snd_yes (ls := ls) (p := p) (k := k) (x := x) ⟨hc, he⟩
          have HSN := Lib.hid hsn
          unfold sdc at C
          clear hsn hjn hc he
          go_wp2_with fail
          refine (C.out _ HQK.out).mono ?_; rintro e w2 ⟨rfl, v2, hq2, hm2⟩
          have HQ2 := Lib.hid (show Qs w2 b v2 (F ++ snd ls p x (k + 1)) from by rw [HSN.out, ← List.append_assoc]; exact hq2)
          have HM2 := Lib.hid (HM.out.trans hm2)
          clear hq2 hm2 C
          go_wp2_with fail
          go_roundw
          case rel => exact ⟨k + 1, v2, by omega, by first | rfl | go_num, HQ2, HM2⟩
          case measure => simp [intOf]; omega
        · have t1 : ((k : Int) != x) = false := by rw [bne_eq_false_iff_eq]; omega
          have HQ2 := Lib.hid (show Qs wr b vk (F ++ snd ls p x (k + 1)) from by rw [snd_no (fun h => he h.2)]; exact HQK.out)
          clear hjn hc he
          go_wp2_with fail
          go_roundw
          case rel => exact ⟨k + 1, vk, by omega, by first | rfl | go_num, HQ2, HM⟩
          case measure => simp [intOf]; omega
      · have hjn : jn ls p k = false := decide_eq_false hc
        rw [hjn] at hix
        have HQ2 := Lib.hid (show Qs wr b vk (F ++ snd ls p x (k + 1)) from by rw [snd_no (fun h => hc h.1)]; exact HQK.out)
        clear hjn hc
        go_wp2_with fail
        go_roundw
        case rel => exact ⟨k + 1, vk, by omega, by first | rfl | go_num, HQ2, HM⟩
        case measure => simp [intOf]; omega
    · obtain rfl : k = 8 := by omega
      have t0 : decide (((8 : Nat) : Int) < 8) = false := by decide
      go_wp2_with fail
      refine bodyPost_end (results_none rfl _ _ _) rfl ?_
      exact ⟨rfl, vk, HQK.out, HM.out⟩
end Go.Proofs.YtedhippamfioeaaDoor.Rpf
