/- Package drr: what the laws and the document's answer share: Things, cells of what comes. No statement is proved here. -/
import Derived.Test.YtmjkjkiogkmmpaaDoorDrrCheck
import Derived.Test.YtmjkjkiogkmmpaaDoorRowsAt
namespace Go.Proofs.YtmjkjkiogkmmpaaDoor.Drr
open Go.ChangeShapes Go.WideShapes Go.ChangeAt Go.RowKit Go.Proofs.YtmjkjkiogkmmpaaDoor.Kit Go.Proofs.YtmjkjkiogkmmpaaDoor.App Go.Proofs.YtmjkjkiogkmmpaaDoor.Err
set_option linter.unusedVariables false
set_option maxRecDepth 20000
set_option maxHeartbeats 1000000

theorem cell_ints {w : World} {b off cap : Nat} {l : List Int} (hi : Ints w (some ⟨b, off, none⟩) cap l) (j : Nat) (hj : j < l.length) : w.cell? ⟨b, off + j, none⟩ = some (.int .i64 (l[j]?.getD 0)) := by
  obtain ⟨b', off', e, _, hc⟩ := hi.2.2.2 (by omega)
  injection e with e
  injection e with e1 e2
  subst e1 e2
  exact hc j hj
theorem some_ints {w : World} {p : Option Addr} {cap : Nat} {l : List Int} (hi : Ints w p cap l) (h0 : 0 < l.length) : ∃ b off, p = some ⟨b, off, none⟩ := by
  obtain ⟨b, off, e, _, _⟩ := hi.2.2.2 h0
  exact ⟨b, off, e⟩
theorem take_step {l : List Int} {k : Nat} (h : k < l.length) : l.take (k + 1) = l.take k ++ [l[k]?.getD 0] := by
  rw [List.take_add_one, List.getElem?_eq_getElem h]; rfl
theorem things_take {ls : List (List Int)} {k : Nat} (h : k < ls.length) : things (ls.take (k + 1)) = things (ls.take k) + (row ls k).length := by
  unfold things row
  rw [List.take_add_one, List.getElem?_eq_getElem h, List.map_append, List.sum_append]
  simp only [Option.toList, List.map_cons, List.map_nil, List.sum_cons, List.sum_nil, Option.getD, Nat.add_zero]
theorem things_any (p : Option Addr) (cap n : Nat) (ls : List (List Int)) (w : World) (hn : n = ls.length) (hi : RowsI w p cap ls) (hg : Good ls) (c : Nat) (hc : things ls = c) :
    Calls Tryd.prog 12 #[.slice p n cap] w fun e w' => e = .returned (.int .i64 (c : Int)) ∧ w' = w := by
  have HI := Lib.hid (rows_at hi)
  have HG := Lib.hid hg
  have HN := Lib.hid hn
  have HC := Lib.hid hc
  have hn5 : n ≤ 5 := by rw [hn]; exact hg.1
  clear hn hi hc hg
  go_enter Tryd.func12, Tryd.ntmps12
  go_wp2_with fail
  go_loopw [3, 4] (fun mv iv wr => ∃ k m : Nat, k ≤ n ∧ m ≤ 8 * k ∧ iv = .int .i64 k ∧ mv = .int .i64 m ∧ wr = w ∧ Hid (m = things (ls.take k))) (fun _ i _ => n - (intOf i).toNat)
  case atStart => exact ⟨0, 0, Nat.zero_le _, Nat.le_refl _, rfl, rfl, rfl, Lib.hid (by simp [things])⟩
  case round =>
    obtain ⟨k, m, hk, hm, rfl, rfl, rfl, H⟩ := hrel
    by_cases hlt : k < n
    · have u1 : decide ((k : Int) < (n : Int)) = true := decide_eq_true (by omega)
      have hkl : k < ls.length := by rw [← HN.out]; exact hlt
      obtain ⟨b, off, rfl, hcc⟩ := HI.out (by omega)
      obtain ⟨q, c1, hck, _⟩ := hcc wr (brefl _) k hkl
      have HT := Lib.hid (things_take hkl)
      have h8 := (HG.out.row k).1
      obtain ⟨y, hy⟩ : ∃ y, (row ls k).length = y := ⟨_, rfl⟩
      rw [hy] at hck HT h8
      have H2 := Lib.hid (show m + y = things (ls.take (k + 1)) by rw [HT.out, H.out])
      clear hkl hy hcc
      go_wp2_with fail
      go_roundw
      case rel => exact ⟨k + 1, m + y, by omega, by omega, by first | rfl | go_num, by first | rfl | go_num, by first | trivial | rfl, H2⟩
      case measure => simp [intOf]; omega
    · obtain rfl : k = n := by omega
      have u1 : decide ((k : Int) < (k : Int)) = false := decide_eq_false (by omega)
      have HE := Lib.hid (show m = c by rw [H.out, HN.out, List.take_length, HC.out])
      go_wp2_with fail
      go_ret
      exact ⟨by rw [HE.out]; rfl, rfl⟩
theorem tot_take_step {l : List Int} {k : Nat} (h : k < l.length) : tot (l.take (k + 1)) = tot (l.take k) + l[k]?.getD 0 := by
  rw [take_step h, tot_append]; simp [tot]
end Go.Proofs.YtmjkjkiogkmmpaaDoor.Drr
