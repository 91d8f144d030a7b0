/- Package lpm: the laws' routed: a table in which something was done. No statement is proved here. -/
import Derived.Test.YtapaglapngbbpaaDoorLpmLaw
namespace Go.Proofs.YtapaglapngbbpaaDoor.Lpm
open Go.ChangeShapes Go.WideShapes Go.ChangeAt Go.RowKit Go.Sort Go.Proofs.YtapaglapngbbpaaDoor.Kit Go.Proofs.YtapaglapngbbpaaDoor.App Go.Proofs.YtapaglapngbbpaaDoor.Cells Go.Proofs.YtapaglapngbbpaaDoor.Cidr Go.Proofs.YtapaglapngbbpaaDoor.CidrMath Go.Proofs.YtapaglapngbbpaaDoor.RouteMath Go.Proofs.YtapaglapngbbpaaDoor.Route
set_option linter.unusedVariables false
set_option maxRecDepth 20000

set_option maxHeartbeats 1000000 in
theorem routed_any (p : Option Addr) (cap n : Nat) (ls : List (List Int)) (w : World) (hn : n = ls.length) (hR : RowsI w p cap ls) :
    Calls Tryd.prog 7 #[.slice p n cap] w fun e w' => ∃ l, e = .returned (.pointer (some ⟨w.heap.size, 0, none⟩)) ∧ Tab w' w.heap.size l ∧ GT l ∧ Below w.heap.size w w' := by
  have HR := Lib.hid hR
  have hcap := hR.len_le
  rw [← hn] at hcap
  have HN := Lib.hid hn
  have N := Lib.hid (new_any w)
  clear hn hR
  go_enter Tryd.func7, Tryd.ntmps7
  go_wp2_with fail
  refine N.out.mono ?_; rintro e w1 ⟨rfl, hT1, hb1⟩
  have HT1 := Lib.hid hT1
  clear hT1 N
  go_wp2_with fail
  go_loopw [4] (fun iv wr => ∃ k : Nat, k ≤ n ∧ iv = .int .i64 (k : Int) ∧ ∃ l, Hid (Tab wr w.heap.size l) ∧ Hid (GT l) ∧ Below w.heap.size w wr) (fun i _ => (n - (intOf i).toNat))
  case atStart => exact ⟨0, Nat.zero_le _, rfl, [], HT1, Lib.hid GT.nil, hb1⟩
  case round =>
    obtain ⟨k, hk, rfl, l, HT, HG, hB⟩ := hrel
    by_cases hkn : k < n
    · have t1 : decide ((k : Int) < (n : Int)) = true := decide_eq_true (by omega)
      by_cases hk60 : k < 60
      · have t2 : decide ((k : Int) < 60) = true := decide_eq_true (by omega)
        have hw1 : IntKind.i64.wrap ((k : Int) + 1) = ((k + 1 : Nat) : Int) := by rw [IntKind.wrap_i64]; omega
        obtain ⟨b0, off0, rfl, hb0, hrow⟩ := HR.out.2.2 (by have := HN.out; omega)
        obtain ⟨q, c, hq, hI⟩ := hrow k (by have := HN.out; omega)
        have hq' : wr.cell? ⟨b0, off0 + k, none⟩ = some (.slice q (ls[k]?.getD []).length c) := (hB.cell (p := ⟨b0, off0 + k, none⟩) hb0).trans hq
        clear hq hrow
        generalize ls[k]?.getD [] = row at hq' hI
        by_cases h3 : row.length = 3
        · have hq3 := hq'
          rw [h3] at hq3
          clear hq'
          obtain ⟨a, b, h, rfl⟩ : ∃ a b h, row = [a, b, h] := by
            match row, h3 with
            | [a, b, h], _ => exact ⟨a, b, h, rfl⟩
          obtain ⟨bb, off, rfl, hbb, hcs⟩ := hI.2.2.2 (by simp)
          have K := Lib.hid (fun (W' : World) (hb : Below w.heap.size w W') => show W'.cell? ⟨bb, off, none⟩ = some (.int .i64 a) ∧ W'.cell? ⟨bb, off + 1, none⟩ = some (.int .i64 b) ∧ W'.cell? ⟨bb, off + 2, none⟩ = some (.int .i64 h) from
            ⟨(hb.cell (p := ⟨bb, off, none⟩) hbb).trans (hcs 0 (by simp)), (hb.cell (p := ⟨bb, off + 1, none⟩) hbb).trans (hcs 1 (by simp)), (hb.cell (p := ⟨bb, off + 2, none⟩) hbb).trans (hcs 2 (by simp))⟩)
          have SC := Lib.hid (fun W hT => set_any w.heap.size l ⟨a, b, h⟩ W hT HG.out)
          have HG2 := Lib.hid (HG.out.step [a, b, h])
          have hBd : Below w.heap.size w wr.drew := hB.drew
          have HTd := Lib.hid (show Tab wr.drew w.heap.size l from HT.out)
          clear hcs hI hbb HT hB
          go_wp2_with fail
          go_region_held3 (fun W' => W'.cell? ⟨bb, off, none⟩ = some (.int .i64 a) ∧ W'.cell? ⟨bb, off + 1, none⟩ = some (.int .i64 b) ∧ W'.cell? ⟨bb, off + 2, none⟩ = some (.int .i64 h))
            (first
              | exact K.out _ hBd
              | exact K.out _ hB3
              | go_keep)
            (first
              | (go_at_call 14; refine (SC.out _ HTd.out).mono ?_; rintro e w3 ⟨rfl, hT3, hg3⟩
                 have hB3 := bgrown hBd (Nat.le_refl _) hg3 (Nat.le_refl _)
                 have HT3 := Lib.hid hT3
                 clear hT3 hg3))
          go_wp2_with fail
          go_roundw
          case rel => exact ⟨k + 1, by omega, rfl, setN l ⟨a, b, h⟩, HT3, HG2, hB3⟩
          case measure => simp [intOf]; omega
        · by_cases h2 : row.length = 2
          · have hq3 := hq'
            rw [h2] at hq3
            clear hq'
            obtain ⟨a, b, rfl⟩ : ∃ a b, row = [a, b] := by
              match row, h2 with
              | [a, b], _ => exact ⟨a, b, rfl⟩
            obtain ⟨bb, off, rfl, hbb, hcs⟩ := hI.2.2.2 (by simp)
            have K := Lib.hid (fun (W' : World) (hb : Below w.heap.size w W') => show W'.cell? ⟨bb, off, none⟩ = some (.int .i64 a) ∧ W'.cell? ⟨bb, off + 1, none⟩ = some (.int .i64 b) from
              ⟨(hb.cell (p := ⟨bb, off, none⟩) hbb).trans (hcs 0 (by simp)), (hb.cell (p := ⟨bb, off + 1, none⟩) hbb).trans (hcs 1 (by simp))⟩)
            have SC := Lib.hid (fun W hT => drop_any w.heap.size l ⟨a, b⟩ W hT HG.out)
            have HG2 := Lib.hid (HG.out.step [a, b])
            have hBd : Below w.heap.size w wr.drew := hB.drew
            have HTd := Lib.hid (show Tab wr.drew w.heap.size l from HT.out)
            clear hcs hI hbb HT hB
            go_wp2_with fail
            go_region_held3 (fun W' => W'.cell? ⟨bb, off, none⟩ = some (.int .i64 a) ∧ W'.cell? ⟨bb, off + 1, none⟩ = some (.int .i64 b))
              (first
                | exact K.out _ hBd
                | exact K.out _ hB3
                | go_keep)
              (first
                | (go_at_call 16; refine (SC.out _ HTd.out).mono ?_; rintro e w3 ⟨rfl, hT3, hg3⟩
                   have hB3 := bgrown hBd (Nat.le_refl _) hg3 (Nat.le_refl _)
                   have HT3 := Lib.hid hT3
                   clear hT3 hg3))
            go_wp2_with fail
            go_roundw
            case rel => exact ⟨k + 1, by omega, rfl, dropN l ⟨a, b⟩, HT3, HG2, hB3⟩
            case measure => simp [intOf]; omega
          · have HS := Lib.hid (step_none l row h3 h2)
            have hrl : row.length ≤ 9223372036854775807 := by have h4 := hI.1; have h5 := hI.2.1; unfold maxLen at h5; omega
            obtain ⟨m, hm⟩ : ∃ m, row.length = m := ⟨_, rfl⟩
            rw [hm] at hq' h3 h2 hrl
            have t3 : ((m : Int) == 3) = false := by rw [beq_eq_false_iff_ne]; omega
            have t4 : ((m : Int) == 2) = false := by rw [beq_eq_false_iff_ne]; omega
            clear hm hI
            go_wp2_with fail
            go_roundw
            case rel => exact ⟨k + 1, by omega, rfl, l, HT, HG, hB⟩
            case measure => simp [intOf]; omega
      · have t2 : decide ((k : Int) < 60) = false := decide_eq_false (by omega)
        go_wp2_with fail
        go_ret
        exact ⟨l, rfl, HT.out, HG.out, hB⟩
    · have t1 : decide ((k : Int) < (n : Int)) = false := decide_eq_false (by omega)
      go_wp2_with fail
      go_ret
      exact ⟨l, rfl, HT.out, HG.out, hB⟩
end Go.Proofs.YtapaglapngbbpaaDoor.Lpm
