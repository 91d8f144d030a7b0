/- Contracts of the document's answers about codes: Bits, Code, Same, Number. No statement is proved here. -/
import Derived.Test.YtooicigocljomaaDoorAll
import Derived.Test.YtooicigocljomaaDoorLineMath
import Derived.Test.YtooicigocljomaaDoorLine2
import Derived.BigQuiet
import Derived.RegionTactic
namespace Go.Proofs.YtooicigocljomaaDoor.Line
open Go.ChangeShapes Go.WideShapes Go.ChangeAt Go.RowKit
open Go.Proofs.YtooicigocljomaaDoor.Kit Go.Proofs.YtooicigocljomaaDoor.App Go.Proofs.YtooicigocljomaaDoor.LineMath
set_option linter.unusedVariables false
set_option maxRecDepth 20000

theorem within_upto (hi : Int) (l : List Int) : within 0 hi l = upto hi l := rfl

theorem rbits_any (p : Option Addr) (cap n : Nat) (l : List Int) (w : World) (hn : n = l.length) (h : Ints w p cap l) (m : Int) (hm : bad 200 1 l = m) :
    Calls Tryd.prog 13 #[.slice p n cap, .int .i64 200] w fun e w' => e = .returned (.int .i64 m) ∧ w = w' := by
  have hlen := h.len_le
  by_cases h1 : 200 < l.length
  · have e : m = 4 := by rw [← hm]; simp [bad, h1]
    subst e
    subst hn
    have t0 : decide ((l.length : Int) > 200) = true := decide_eq_true (by omega)
    clear hm
    go_enter Tryd.func13, Tryd.ntmps13
    go_wp2
    go_ret
    exact ⟨rfl, rfl⟩
  · have e : m = if upto 1 l = true then 0 else 1 := by rw [← hm]; simp [bad, h1]
    have t0 : decide ((l.length : Int) > 200) = false := decide_eq_false (by omega)
    cases hy : upto 1 l with
    | true =>
      rw [hy] at e
      have e' : m = 0 := e
      clear e
      subst e'
      subst hn
      have C := Lib.hid (all_any 0 1 p cap _ l w rfl h true hy.symm)
      clear hm hy
      go_enter Tryd.func13, Tryd.ntmps13
      go_wp2_with (go_at_call 8; refine C.out.mono ?_; rintro e w' ⟨rfl, rfl⟩)
      go_ret
      exact ⟨rfl, rfl⟩
    | false =>
      rw [hy] at e
      have e' : m = 1 := e
      clear e
      subst e'
      subst hn
      have C := Lib.hid (all_any 0 1 p cap _ l w rfl h false hy.symm)
      clear hm hy
      go_enter Tryd.func13, Tryd.ntmps13
      go_wp2_with (go_at_call 8; refine C.out.mono ?_; rintro e w' ⟨rfl, rfl⟩)
      go_ret
      exact ⟨rfl, rfl⟩

set_option maxHeartbeats 1000000 in
theorem rsame_any_q (p q : Option Addr) (cap cap2 n m : Nat) (a b : List Int) (w : World) (hn : n = a.length) (hm : m = b.length) (ha : Ints w p cap a) (hb : Ints w q cap2 b) (R : Bool) (hR0 : R = (a == b)) :
    Calls Tryd.prog 29 #[.slice p n cap, .slice q m cap2] w fun e w' => e = .returned (.bool R) ∧ ∃ m, w' = w.drewN m := by
  have hR := Lib.hid hR0
  clear hR0
  subst hn; subst hm
  have hla := ha.len_le
  have hlb := hb.len_le
  by_cases hlen : a.length = b.length
  · have t0 : ((a.length : Int) != (b.length : Int)) = false := by rw [hlen]; simp
    go_enter Tryd.func29, Tryd.ntmps29
    go_wp2
    go_loopw [5] (fun i wr => ∃ k m : Nat, k ≤ a.length ∧ i = .int .i64 k ∧ Hid (∀ j : Nat, j < k → a[j]?.getD 0 = b[j]?.getD 0) ∧ wr = w.drewN m) (fun i _ => a.length - (intOf i).toNat)
    case atStart => exact ⟨0, 0, Nat.zero_le _, rfl, fun j hj => absurd hj (Nat.not_lt_zero _), rfl⟩
    case round =>
      obtain ⟨k, m, hk, rfl, H, rfl⟩ := hrel
      by_cases hlt : k < a.length
      · obtain ⟨b1, off1, rfl, hb1, hc1⟩ := ha.2.2.2 (by omega)
        obtain ⟨b2, off2, rfl, hb2, hc2⟩ := hb.2.2.2 (by omega)
        have hk1 := hc1 k hlt
        have hk2 := hc2 k (by omega)
        have hltb : k < b.length := by omega
        clear hc1 hc2 ha hb
        obtain ⟨x, hx⟩ : ∃ x, a[k]?.getD 0 = x := ⟨_, rfl⟩
        obtain ⟨y, hy⟩ : ∃ y, b[k]?.getD 0 = y := ⟨_, rfl⟩
        rw [hx] at hk1
        rw [hy] at hk2
        have Hx := Lib.hid hx
        have Hy := Lib.hid hy
        clear hx hy
        by_cases h1 : x = y
        · subst h1
          have t1 : (x != x) = false := by simp
          go_wp2_with (go_region)
          go_roundw
          case rel => exact ⟨k + 1, m + 1, by omega, by go_num, fun j hj => by
            by_cases e : j = k
            · rw [e, Hx.out, Hy.out]
            · exact H.out j (by omega), rfl⟩
          case measure => simp [intOf]; omega
        · have t1 : (x != y) = true := by simpa using h1
          go_wp2_with (go_region)
          go_ret
          refine ⟨by rw [hR.out, beq_eq_false_iff_ne.2 (fun e => h1 (by rw [← Hx.out, ← Hy.out, e]))]; rfl, m + 1, rfl⟩
      · obtain rfl : k = a.length := by omega
        go_wp2
        go_ret
        exact ⟨by rw [hR.out, beq_iff_eq.2 (eq_of_get hlen H.out)]; rfl, m, rfl⟩
  · have t0 : ((a.length : Int) != (b.length : Int)) = true := by rw [bne_iff_ne]; omega
    have hR' : R = false := by rw [hR.out]; exact beq_eq_false_iff_ne.2 (fun e => hlen (by rw [e]))
    clear hR
    subst hR'
    go_enter Tryd.func29, Tryd.ntmps29
    go_wp2
    go_ret
    exact ⟨rfl, 0, rfl⟩
theorem rsame_any (p q : Option Addr) (cap cap2 n m : Nat) (a b : List Int) (w : World) (hn : n = a.length) (hm : m = b.length) (ha : Ints w p cap a) (hb : Ints w q cap2 b) (R : Bool) (hR0 : R = (a == b)) :
    Calls Tryd.prog 29 #[.slice p n cap, .slice q m cap2] w fun e w' => e = .returned (.bool R) ∧ Below w.heap.size w w' := by
  refine (rsame_any_q p q cap cap2 n m a b w hn hm ha hb R hR0).mono ?_
  rintro e w' ⟨rfl, m, rfl⟩
  exact ⟨rfl, below_drewN (brefl w) m⟩

def codeText : ByteArray := { data := ([49, 49, 49, 49, 48, 32, 48, 49, 48, 48, 49, 32, 49, 48, 49, 48, 48, 32, 49, 48, 49, 48, 49, 32, 48, 49, 48, 49, 48, 32, 48, 49, 48, 49, 49, 32, 48, 49, 49, 49, 48, 32, 48, 49, 49, 49, 49].append [32, 49, 48, 48, 49, 48, 32, 49, 48, 48, 49, 49, 32, 49, 48, 49, 49, 48, 32, 49, 48, 49, 49, 49, 32, 49, 49, 48, 49, 48, 32, 49, 49, 48, 49, 49, 32, 49, 49, 49, 48, 48, 32, 49, 49, 49, 48, 49]).toArray }
theorem text_at : ∀ n : Nat, n < 16 → ∀ k : Nat, k < 5 → codeText[6 * n + k]?.map (fun b => (b.toNat : Int)) = some (48 + at5 n k) := by decide +kernel
theorem text_index (n k : Nat) (hn : n < 16) (hk : k < 5) (W : World) : (Instr.index 9 (.string codeText) (.int .i64 (6 * (n : Int) + (k : Int)))).run Tryd.prog W = .ok (.int .u8 (48 + at5 n k)) W := by
  have h := text_at n hn k hk
  have hx : codeText[(6 * (n : Int) + (k : Int)).toNat]?.map (fun b => (b.toNat : Int)) = some (48 + at5 n k) := by
    have e : (6 * (n : Int) + (k : Int)).toNat = 6 * n + k := by omega
    rw [e, ← h]
  obtain ⟨b, hb, hbe⟩ := Option.map_eq_some_iff.1 hx
  have h0 : (0 : Int) ≤ 6 * (n : Int) + (k : Int) := by omega
  simp [Instr.index, asIntOf, run_underlying Tryd.underlying9, Sem.run_bind, h0, hb, hbe]

set_option maxHeartbeats 1000000 in
theorem rcode_any (n : Nat) (hn : n < 16) (w : World) :
    Calls Tryd.prog 9 #[.int .i64 n] w fun e w' => ∃ v, e = .returned v ∧ OwnI w' w.heap.size v (code n) ∧ Below w.heap.size w w' := by
  have HT := Lib.hid (fun k hk => text_index n k hn hk)
  go_enter Tryd.func9, Tryd.ntmps9
  go_wp2_with fail
  rw [show ({ data := ([49, 49, 49, 49, 48, 32, 48, 49, 48, 48, 49, 32, 49, 48, 49, 48, 48, 32, 49, 48, 49, 48, 49, 32, 48, 49, 48, 49, 48, 32, 48, 49, 48, 49, 49, 32, 48, 49, 49, 49, 48, 32, 48, 49, 49, 49, 49].append [32, 49, 48, 48, 49, 48, 32, 49, 48, 48, 49, 49, 32, 49, 48, 49, 49, 48, 32, 49, 48, 49, 49, 49, 32, 49, 49, 48, 49, 48, 32, 49, 49, 48, 49, 49, 32, 49, 49, 49, 48, 48, 32, 49, 49, 49, 48, 49]).toArray } : ByteArray) = codeText from rfl]
  generalize codeText = S at HT ⊢
  go_loopw [4, 5] (fun v i wr => ∃ (k : Nat), k ≤ 5 ∧ i = .int .i64 k ∧ OwnI wr w.heap.size v ((code n).take k) ∧ Below w.heap.size w wr) (fun _ i _ => 5 - (intOf i).toNat)
  case atStart => exact ⟨0, by omega, rfl, OwnI.nil _ _, brefl _⟩
  case round =>
    obtain ⟨k, hk, rfl, hown, hB⟩ := hrel
    by_cases hlt : k < 5
    · have hix := HT.out k hlt
      have hb := at5_bit n k
      have hs : (code n).take (k + 1) = (code n).take k ++ [at5 n k] := by
        have h5 : k = 0 ∨ k = 1 ∨ k = 2 ∨ k = 3 ∨ k = 4 := by omega
        rcases h5 with rfl | rfl | rfl | rfl | rfl <;> rfl
      have hol : ((code n).take k).length ≤ 5 := by rw [List.length_take]; omega
      generalize (code n).take k = out at hs hown hol
      generalize at5 n k = x at hix hb hs
      have HS := Lib.hid hs
      have hxw : (Lit.int .i64 (48 + x - 48)).wf = true := wf_bit (by omega) (by omega)
      have EX := Lib.hid (show 48 + x - 48 = x by omega)
      have hBs := hB.size
      clear hs
      go_wp2_with (at_builtin
                   refine wp_app rfl (.tmp 10) (.tmp 19) rfl w.heap.size _ out (some ⟨wr.heap.size, 0, none⟩) 1 1 [48 + x - 48] rfl (hown.alloc _) rfl rfl (Ints.one wr _ hxw) (by simp; omega) (Nat.le_trans hBs (by simp)) ?_
                   intro v1 wa hown1 hg1 hat1
                   have hb1 : Below w.heap.size w wa := below_one hB hBs _ hown hg1
                   clear hat1 hg1)
      go_roundw
      case rel => exact ⟨k + 1, by omega, by go_num, by rw [HS.out, ← EX.out]; exact hown1, hb1⟩
      case measure => simp [intOf]; omega
    · obtain rfl : k = 5 := by omega
      go_wp2_with fail
      go_ret
      exact ⟨_, rfl, hown, hB⟩

set_option maxHeartbeats 1000000 in
theorem rnum_any (p : Option Addr) (cap n : Nat) (l : List Int) (w : World) (hn : n = l.length) (h : Ints w p cap l) (R : Int) (hR0 : R = match num l with | some m => (m : Int) | none => -1) :
    Calls Tryd.prog 16 #[.slice p n cap] w fun e w' => e = .returned (.int .i64 R) ∧ Below w.heap.size w w' := by
  have hR := Lib.hid hR0
  have hlen := h.len_le
  clear hR0
  go_enter Tryd.func16, Tryd.ntmps16
  go_wp2_with fail
  go_loopw [3] (fun i wr => ∃ (k : Nat), k ≤ 16 ∧ i = .int .i64 k ∧ Hid (∀ j : Nat, j < k → code j ≠ l) ∧ Below w.heap.size w wr) (fun i _ => 16 - (intOf i).toNat)
  case atStart => exact ⟨0, by omega, rfl, fun j hj => absurd hj (Nat.not_lt_zero _), brefl _⟩
  case round =>
    obtain ⟨k, hk, rfl, H, hB⟩ := hrel
    by_cases hlt : k < 16
    · go_wp2_with fail
      refine (rcode_any k hlt wr).mono ?_; rintro e w1 ⟨v, rfl, ho, hb1⟩
      obtain ⟨q, c, rfl, hi⟩ := ho.form
      have hB1 := bcall hB hb1
      clear ho
      by_cases he : code k = l
      · have C := Lib.hid (rsame_any q p c cap (code k).length n (code k) l w1 rfl hn hi (h.below hB1) true (by rw [he, beq_self_eq_true]))
        have e1 : R = (k : Int) := by rw [hR.out, num_at hlt he]
        have E1 := Lib.hid e1
        clear e1 he hn h
        generalize (code k).length = cl at C ⊢
        go_wp2_with fail
        refine C.out.mono ?_; rintro e w2 ⟨rfl, hb2⟩
        go_wp2_with fail
        go_ret
        exact ⟨by rw [E1.out]; rfl, bcall hB1 hb2⟩
      · have C := Lib.hid (rsame_any q p c cap (code k).length n (code k) l w1 rfl hn hi (h.below hB1) false (by rw [beq_eq_false_iff_ne.2 he]))
        have HN := Lib.hid he
        clear he hn
        generalize (code k).length = cl at C ⊢
        go_wp2_with fail
        refine C.out.mono ?_; rintro e w2 ⟨rfl, hb2⟩
        go_wp2_with fail
        go_roundw
        case rel => exact ⟨k + 1, by omega, by go_num, fun j hj => by
          by_cases e : j = k
          · rw [e]; exact HN.out
          · exact H.out j (by omega), bcall hB1 hb2⟩
        case measure => simp [intOf]; omega
    · obtain rfl : k = 16 := by omega
      have e1 : R = -1 := by rw [hR.out, num_none H.out]
      have E1 := Lib.hid e1
      clear e1
      go_wp2_with fail
      go_ret
      exact ⟨by rw [E1.out]; rfl, hB⟩
end Go.Proofs.YtooicigocljomaaDoor.Line
