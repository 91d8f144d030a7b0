/- The contract of Five of package line. No statement is proved here. -/
import Derived.Test.YtooicigocljomaaDoorLine1
namespace Go.Proofs.YtooicigocljomaaDoor.Line
open Go.ChangeShapes Go.WideShapes Go.ChangeAt Go.RowKit
open Go.Proofs.YtooicigocljomaaDoor.Kit Go.Proofs.YtooicigocljomaaDoor.App Go.Proofs.YtooicigocljomaaDoor.LineMath
set_option linter.unusedVariables false
set_option maxRecDepth 20000

theorem Codes.at5 {w : World} (h : Codes w) {n : Nat} (hn : n < 16) : w.cell? ⟨0, n * 5, none⟩ = some (.int .i64 (at5 n 0)) ∧ w.cell? ⟨0, n * 5 + 1, none⟩ = some (.int .i64 (at5 n 1)) ∧
    w.cell? ⟨0, n * 5 + 2, none⟩ = some (.int .i64 (at5 n 2)) ∧ w.cell? ⟨0, n * 5 + 3, none⟩ = some (.int .i64 (at5 n 3)) ∧ w.cell? ⟨0, n * 5 + 4, none⟩ = some (.int .i64 (at5 n 4)) := by
  have e : 5 * n = n * 5 := Nat.mul_comm _ _
  unfold LineMath.at5
  rw [e]
  exact ⟨h.cell _ (by omega), h.cell _ (by omega), h.cell _ (by omega), h.cell _ (by omega), h.cell _ (by omega)⟩
theorem at5_bit (n i : Nat) : 0 ≤ at5 n i ∧ at5 n i ≤ 1 := by unfold LineMath.at5; rcases tab_get (5 * n + i) with h | h <;> rw [h] <;> omega

theorem lit5 (w : World) (t : TypeId) (a0 a1 a2 a3 a4 : Int) (h : ∀ x ∈ [a0, a1, a2, a3, a4], (Lit.int .i64 x).wf = true) : Ints (w.alloc (.cells #[.int .i64 a0, .int .i64 a1, .int .i64 a2, .int .i64 a3, .int .i64 a4] t)) (some ⟨w.heap.size, 0, none⟩) 5 [a0, a1, a2, a3, a4] :=
  ⟨by simp, by simp [maxLen], fun j => by
    by_cases hj : j < [a0, a1, a2, a3, a4].length
    · rw [List.getElem?_eq_getElem hj]; exact h _ (List.getElem_mem hj)
    · rw [List.getElem?_eq_none (by omega)]; exact wf_zero, fun _ => ⟨w.heap.size, 0, rfl, by simp, fun j hj => by
    have : (w.alloc (.cells #[.int .i64 a0, .int .i64 a1, .int .i64 a2, .int .i64 a3, .int .i64 a4] t)).heap[w.heap.size]? = some (.cells #[.int .i64 a0, .int .i64 a1, .int .i64 a2, .int .i64 a3, .int .i64 a4] t) := alloc_new w _
    unfold World.cell?
    rw [this]
    rcases j with _|_|_|_|_|j
    · rfl
    · rfl
    · rfl
    · rfl
    · rfl
    · simp at hj; omega⟩⟩
theorem bits5_wf {a0 a1 a2 a3 a4 : Int} (y0 : 0 ≤ a0 ∧ a0 ≤ 1) (y1 : 0 ≤ a1 ∧ a1 ≤ 1) (y2 : 0 ≤ a2 ∧ a2 ≤ 1) (y3 : 0 ≤ a3 ∧ a3 ≤ 1) (y4 : 0 ≤ a4 ∧ a4 ≤ 1) : ∀ x ∈ [a0, a1, a2, a3, a4], (Lit.int .i64 x).wf = true := by
  intro x hx
  simp only [List.mem_cons, List.not_mem_nil, or_false] at hx
  rcases hx with rfl | rfl | rfl | rfl | rfl <;> (exact wf_bit (by omega) (by omega))

set_option maxHeartbeats 1000000 in
theorem five_ok (p : Option Addr) (cap n : Nat) (l : List Int) (w : World) (hn : n = l.length) (h : Ints w p cap l) (h0 : bad 40 15 l = 0) (hC : Codes w) :
    Calls Tryd.prog 10 #[.slice p n cap] w fun e w' => ∃ v, e = .returned (.tuple #[v, .nilIface]) ∧ OwnI w' w.heap.size v (five l) ∧ Below w.heap.size w w' := by
  have C0 := check_good 40 15 p cap n l w hn h (by decide) h0
  rw [show ((40 : Nat) : Int) = 40 from rfl] at C0
  have C := Lib.hid C0
  subst hn
  have hl := (bad_zero h0).1
  have hu := Lib.hid (bad_zero h0).2
  clear h0 C0
  go_enter Tryd.func10, Tryd.ntmps10
  go_wp2_with fail
  refine C.out.mono ?_; rintro e w' ⟨rfl, rfl⟩
  go_wp2_with fail
  go_loopw [5, 16] (fun v i wr => ∃ (k : Nat), k ≤ l.length ∧ i = .int .i64 k ∧ OwnI wr w.heap.size v (five (l.take k)) ∧ Below w.heap.size w wr) (fun _ i _ => l.length - (intOf i).toNat)
  case atStart => exact ⟨0, Nat.zero_le _, rfl, OwnI.nil _ _, brefl _⟩
  case round =>
    obtain ⟨k, hk, rfl, hown, hB⟩ := hrel
    by_cases hlt : k < l.length
    · obtain ⟨b, off, rfl, hbw, hc⟩ := h.2.2.2 (by omega)
      have hck := (hB.cell (p := ⟨b, off + k, none⟩) hbw).trans (hc k hlt)
      have hxr := upto_get hu.out hlt
      have hs : five (l.take (k + 1)) = five (l.take k) ++ code (l[k]?.getD 0).toNat := by
        rw [List.take_succ_eq_append_getElem hlt, five_snoc, List.getElem?_eq_getElem hlt]; rfl
      have hfl : (five (l.take k)).length ≤ 200 := by rw [five_len, List.length_take]; omega
      clear hc
      obtain ⟨x, hx⟩ : ∃ x : Nat, l[k]?.getD 0 = (x : Int) := ⟨(l[k]?.getD 0).toNat, by omega⟩
      rw [hx] at hck hxr hs
      have hx16 : x < 16 := by omega
      rw [Int.toNat_natCast] at hs
      obtain ⟨g0, g1, g2, g3, g4⟩ := (hC.below hB).at5 hx16
      have hcode : code x = [at5 x 0, at5 x 1, at5 x 2, at5 x 3, at5 x 4] := rfl
      rw [hcode] at hs
      have y0 := at5_bit x 0; have y1 := at5_bit x 1; have y2 := at5_bit x 2; have y3 := at5_bit x 3; have y4 := at5_bit x 4
      clear hcode
      generalize at5 x 0 = a0 at *
      generalize at5 x 1 = a1 at *
      generalize at5 x 2 = a2 at *
      generalize at5 x 3 = a3 at *
      generalize at5 x 4 = a4 at *
      have HS := Lib.hid hs
      have hw5 := bits5_wf y0 y1 y2 y3 y4
      obtain ⟨out, ho⟩ : ∃ out, five (l.take k) = out := ⟨_, rfl⟩
      rw [ho] at HS hown hfl
      clear hx hs ho
      have hBs := hB.size
      have L5 := Lib.hid (lit5 wr 43 a0 a1 a2 a3 a4 hw5)
      clear y0 y1 y2 y3 y4 hw5
      go_wp2_with (at_builtin
                   refine wp_app rfl (.tmp 23) (.tmp 24) rfl w.heap.size _ out (some ⟨wr.heap.size, 0, none⟩) 5 5 [a0, a1, a2, a3, a4] rfl (hown.alloc _) rfl rfl L5.out (by simp; omega) (Nat.le_trans hBs (by simp)) ?_
                   intro v1 w1 hown1 hg1 hat1
                   have hb1 : Below w.heap.size w w1 := below_one hB hBs _ hown hg1
                   clear hat1 hg1)
      go_roundw
      case rel => exact ⟨k + 1, by omega, by go_num, by rw [HS.out]; exact hown1, hb1⟩
      case measure => simp [intOf]; omega
    · obtain rfl : k = l.length := by omega
      rw [List.take_length] at hown
      go_wp2_with fail
      go_ret2
      exact ⟨_, rfl, hown, hB⟩

theorem five_bad1 (p : Option Addr) (cap n : Nat) (l : List Int) (w : World) (hn : n = l.length) (h : Ints w p cap l) (m : Int) (hm2 : bad 40 15 l = m) (h0 : m ≠ 0) :
    Calls Tryd.prog 26 #[.slice p n cap, .int .i64 40, .int .i64 15] w fun e w' => e = .returned (.iface 45 (.int .i64 m)) ∧ w = w' := check_bad 40 15 p cap n l w hn h (by decide) m hm2 h0
theorem five_bad2 (p : Option Addr) (cap n : Nat) (m : Int) (w : World) (C : Hid (Calls Tryd.prog 26 #[.slice p n cap, .int .i64 40, .int .i64 15] w fun e w' => e = .returned (.iface 45 (.int .i64 m)) ∧ w = w')) :
    Calls Tryd.prog 10 #[.slice p n cap] w fun e w' => e = .returned (.tuple #[.slice none 0 0, .iface 45 (.int .i64 m)]) ∧ w = w' := by
  go_enter Tryd.func10, Tryd.ntmps10
  go_wp2_with fail
  refine C.out.mono ?_; rintro e w' ⟨rfl, rfl⟩
  go_wp2_with fail
  go_ret2
  exact ⟨rfl, rfl⟩
theorem five_bad (p : Option Addr) (cap n : Nat) (l : List Int) (w : World) (hn : n = l.length) (h : Ints w p cap l) (m : Int) (hm2 : bad 40 15 l = m) (h0 : m ≠ 0) :
    Calls Tryd.prog 10 #[.slice p n cap] w fun e w' => e = .returned (.tuple #[.slice none 0 0, .iface 45 (.int .i64 m)]) ∧ w = w' :=
  five_bad2 p cap n m w (Lib.hid (five_bad1 p cap n l w hn h m hm2 h0))
end Go.Proofs.YtooicigocljomaaDoor.Line
