/- The contracts of Turns and Bits of package line. No statement is proved here. -/
import Derived.Test.YtooicigocljomaaDoorLine2
namespace Go.Proofs.YtooicigocljomaaDoor.Line
open Go.ChangeShapes Go.WideShapes Go.ChangeAt Go.RowKit
open Go.Proofs.YtooicigocljomaaDoor.Kit Go.Proofs.YtooicigocljomaaDoor.App Go.Proofs.YtooicigocljomaaDoor.LineMath
set_option linter.unusedVariables false
set_option maxRecDepth 20000

theorem turns_bad2 (p : Option Addr) (cap n : Nat) (m : Int) (w : World) (C : Hid (Calls Tryd.prog 28 #[.slice p n cap] w fun e w' => e = .returned (.iface 45 (.int .i64 m)) ∧ w = w')) :
    Calls Tryd.prog 14 #[.slice p n cap] w fun e w' => e = .returned (.tuple #[.slice none 0 0, .iface 45 (.int .i64 m)]) ∧ w = w' := by
  go_enter Tryd.func14, Tryd.ntmps14
  go_wp2_with fail
  refine C.out.mono ?_; rintro e w' ⟨rfl, rfl⟩
  go_wp2_with fail
  go_ret2
  exact ⟨rfl, rfl⟩
theorem turns_bad (p : Option Addr) (cap n : Nat) (l : List Int) (w : World) (hn : n = l.length) (h : Ints w p cap l) (m : Int) (hm2 : bad 200 1 l = m) (h0 : m ≠ 0) :
    Calls Tryd.prog 14 #[.slice p n cap] w fun e w' => e = .returned (.tuple #[.slice none 0 0, .iface 45 (.int .i64 m)]) ∧ w = w' :=
  turns_bad2 p cap n m w (Lib.hid (checkBits_bad p cap n l w hn h m hm2 h0))
theorem bits_bad2 (p : Option Addr) (cap n : Nat) (m : Int) (w : World) (C : Hid (Calls Tryd.prog 28 #[.slice p n cap] w fun e w' => e = .returned (.iface 45 (.int .i64 m)) ∧ w = w')) :
    Calls Tryd.prog 15 #[.slice p n cap] w fun e w' => e = .returned (.tuple #[.slice none 0 0, .iface 45 (.int .i64 m)]) ∧ w = w' := by
  go_enter Tryd.func15, Tryd.ntmps15
  go_wp2_with fail
  refine C.out.mono ?_; rintro e w' ⟨rfl, rfl⟩
  go_wp2_with fail
  go_ret2
  exact ⟨rfl, rfl⟩
theorem bits_bad (p : Option Addr) (cap n : Nat) (l : List Int) (w : World) (hn : n = l.length) (h : Ints w p cap l) (m : Int) (hm2 : bad 200 1 l = m) (h0 : m ≠ 0) :
    Calls Tryd.prog 15 #[.slice p n cap] w fun e w' => e = .returned (.tuple #[.slice none 0 0, .iface 45 (.int .i64 m)]) ∧ w = w' :=
  bits_bad2 p cap n m w (Lib.hid (checkBits_bad p cap n l w hn h m hm2 h0))

theorem xor_bit {s x : Int} (hs : 0 ≤ s ∧ s ≤ 1) (hx : 0 ≤ x ∧ x ≤ 1) : Go.bits BinOp.xor IntKind.i64 s x = xr s x := by
  rcases bit_cases hx with rfl | rfl <;> rcases bit_cases hs with rfl | rfl <;> decide

set_option maxHeartbeats 1000000 in
theorem turns_ok (p : Option Addr) (cap n : Nat) (l : List Int) (w : World) (hn : n = l.length) (h : Ints w p cap l) (h0 : bad 200 1 l = 0) :
    Calls Tryd.prog 14 #[.slice p n cap] w fun e w' => ∃ v, e = .returned (.tuple #[v, .nilIface]) ∧ OwnI w' w.heap.size v (turns 0 l) ∧ Below w.heap.size w w' := by
  have C := Lib.hid (checkBits_good p cap n l w hn h h0)
  subst hn
  have hl := (bad_zero h0).1
  have hu := Lib.hid (bad_zero h0).2
  clear h0
  go_enter Tryd.func14, Tryd.ntmps14
  go_wp2_with fail
  refine C.out.mono ?_; rintro e w' ⟨rfl, rfl⟩
  go_wp2_with fail
  go_loopw [5, 6, 16] (fun v s i wr => ∃ (k : Nat), k ≤ l.length ∧ i = .int .i64 k ∧ s = .int .i64 (level 0 (l.take k)) ∧ OwnI wr w.heap.size v (turns 0 (l.take k)) ∧ Below w.heap.size w wr) (fun _ _ i _ => l.length - (intOf i).toNat)
  case atStart => exact ⟨0, Nat.zero_le _, rfl, rfl, OwnI.nil _ _, brefl _⟩
  case round =>
    obtain ⟨k, hk, rfl, rfl, hown, hB⟩ := hrel
    by_cases hlt : k < l.length
    · obtain ⟨b, off, rfl, hbw, hc⟩ := h.2.2.2 (by omega)
      have hck := (hB.cell (p := ⟨b, off + k, none⟩) hbw).trans (hc k hlt)
      have hxr := upto_get hu.out hlt
      have hs : turns 0 (l.take (k + 1)) = turns 0 (l.take k) ++ [xr (level 0 (l.take k)) (l[k]?.getD 0)] ∧ level 0 (l.take (k + 1)) = xr (level 0 (l.take k)) (l[k]?.getD 0) := by
        rw [List.take_succ_eq_append_getElem hlt, turns_snoc, level_snoc, List.getElem?_eq_getElem hlt]; exact ⟨rfl, rfl⟩
      have hfl : (turns 0 (l.take k)).length ≤ 200 := by rw [turns_len, List.length_take]; omega
      have hlv := level_bit (s := 0) (by omega) (l.take k)
      clear hc
      generalize l[k]?.getD 0 = x at hck hxr hs
      generalize turns 0 (l.take k) = out at hs hown hfl
      generalize level 0 (l.take k) = s at hs hlv ⊢
      have hy := xr_bit s x
      have HS := Lib.hid hs
      clear hs
      have hX := xor_bit hlv hxr
      have hyw : (Lit.int .i64 (xr s x)).wf = true := wf_bit hy.1 hy.2
      generalize xr s x = y at hX HS hyw
      clear hy hlv hxr
      have hBs := hB.size
      go_wp2_with (at_builtin
                   refine wp_app rfl (.tmp 23) (.tmp 25) rfl w.heap.size _ out (some ⟨wr.heap.size, 0, none⟩) 1 1 [y] rfl (hown.alloc _) rfl rfl (Ints.one wr y hyw) (by simp; omega) (Nat.le_trans hBs (by simp)) ?_
                   intro v1 w1 hown1 hg1 hat1
                   have hb1 : Below w.heap.size w w1 := below_one hB hBs _ hown hg1
                   clear hat1 hg1)
      go_roundw
      case rel => exact ⟨k + 1, by omega, by go_num, by rw [HS.out.2], by rw [HS.out.1]; exact hown1, hb1⟩
      case measure => simp [intOf]; omega
    · obtain rfl : k = l.length := by omega
      rw [List.take_length] at hown
      go_wp2_with fail
      go_ret2
      exact ⟨_, rfl, hown, hB⟩

/-- The level ahead of a place. -/
def prev (l : List Int) (k : Nat) : Int := if k = 0 then 0 else l[k - 1]?.getD 0
theorem prev_last (l : List Int) (k : Nat) (h : k ≤ l.length) : (l.take k).getLast?.getD 0 = prev l k := by
  unfold prev
  by_cases h0 : k = 0
  · subst h0; simp
  · rw [if_neg h0, List.getLast?_eq_getElem?, List.length_take, List.getElem?_take, if_pos (by omega)]
    congr 2
    omega
set_option maxHeartbeats 1000000 in
theorem bits_ok (p : Option Addr) (cap n : Nat) (l : List Int) (w : World) (hn : n = l.length) (h : Ints w p cap l) (h0 : bad 200 1 l = 0) :
    Calls Tryd.prog 15 #[.slice p n cap] w fun e w' => ∃ v, e = .returned (.tuple #[v, .nilIface]) ∧ OwnI w' w.heap.size v (unt 0 l) ∧ Below w.heap.size w w' := by
  have C := Lib.hid (checkBits_good p cap n l w hn h h0)
  subst hn
  have hl := (bad_zero h0).1
  have hu := Lib.hid (bad_zero h0).2
  clear h0
  go_enter Tryd.func15, Tryd.ntmps15
  go_wp2_with fail
  refine C.out.mono ?_; rintro e w' ⟨rfl, rfl⟩
  go_wp2_with fail
  go_loopw [5, 6, 16] (fun v s i wr => ∃ (k : Nat), k ≤ l.length ∧ i = .int .i64 k ∧ s = .int .i64 (prev l k) ∧ OwnI wr w.heap.size v (unt 0 (l.take k)) ∧ Below w.heap.size w wr) (fun _ _ i _ => l.length - (intOf i).toNat)
  case atStart => exact ⟨0, Nat.zero_le _, rfl, rfl, OwnI.nil _ _, brefl _⟩
  case round =>
    obtain ⟨k, hk, rfl, rfl, hown, hB⟩ := hrel
    by_cases hlt : k < l.length
    · obtain ⟨b, off, rfl, hbw, hc⟩ := h.2.2.2 (by omega)
      have hck := (hB.cell (p := ⟨b, off + k, none⟩) hbw).trans (hc k hlt)
      have hxr := upto_get hu.out hlt
      have hs : unt 0 (l.take (k + 1)) = unt 0 (l.take k) ++ [xr (prev l k) (l[k]?.getD 0)] ∧ prev l (k + 1) = l[k]?.getD 0 := by
        rw [List.take_succ_eq_append_getElem hlt, unt_snoc, prev_last l k hk, List.getElem?_eq_getElem hlt]
        refine ⟨rfl, ?_⟩
        unfold prev
        rw [if_neg (by omega), Nat.add_sub_cancel, List.getElem?_eq_getElem hlt]
      have hfl : (unt 0 (l.take k)).length ≤ 200 := by rw [unt_len, List.length_take]; omega
      have hlv : 0 ≤ prev l k ∧ prev l k ≤ 1 := by
        unfold prev
        split
        · omega
        · exact upto_get hu.out (by omega)
      clear hc
      generalize l[k]?.getD 0 = x at hck hxr hs
      generalize unt 0 (l.take k) = out at hs hown hfl
      generalize prev l k = s at hs hlv ⊢
      have hy := xr_bit s x
      have HS := Lib.hid hs
      clear hs
      have hX := xor_bit hlv hxr
      have hyw : (Lit.int .i64 (xr s x)).wf = true := wf_bit hy.1 hy.2
      generalize xr s x = y at hX HS hyw
      clear hy hlv hxr
      have hBs := hB.size
      go_wp2_with (at_builtin
                   refine wp_app rfl (.tmp 20) (.tmp 24) rfl w.heap.size _ out (some ⟨wr.heap.size, 0, none⟩) 1 1 [y] rfl (hown.alloc _) rfl rfl (Ints.one wr y hyw) (by simp; omega) (Nat.le_trans hBs (by simp)) ?_
                   intro v1 w1 hown1 hg1 hat1
                   have hb1 : Below w.heap.size w w1 := below_one hB hBs _ hown hg1
                   clear hat1 hg1)
      go_roundw
      case rel => exact ⟨k + 1, by omega, by go_num, by rw [HS.out.2], by rw [HS.out.1]; exact hown1, hb1⟩
      case measure => simp [intOf]; omega
    · obtain rfl : k = l.length := by omega
      rw [List.take_length] at hown
      go_wp2_with fail
      go_ret2
      exact ⟨_, rfl, hown, hB⟩
end Go.Proofs.YtooicigocljomaaDoor.Line
