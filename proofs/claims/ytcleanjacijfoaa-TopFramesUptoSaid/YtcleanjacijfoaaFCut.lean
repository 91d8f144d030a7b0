/- The contracts of frag.Cut. No statement is proved here. -/
import Derived.Test.YtcleanjacijfoaaJoinLaws
import Derived.IntWalk
namespace Go.Proofs.Ytcleanjacijfoaa.Part
open Go.ChangeShapes Go.WideShapes Go.ChangeAt Go.RowKit Go.Proofs.Ytcleanjacijfoaa.Kit Go.Proofs.Ytcleanjacijfoaa.App Go.Proofs.Ytcleanjacijfoaa.Cells
set_option linter.unusedVariables false
set_option maxRecDepth 20000

theorem count_some (s : ByteArray) (n : Nat) (hn : 0 < n) (h : 0 < s.size) : (s.size + n - 1) / n = more s n + 1 := by
  unfold more
  rw [show s.size + n - 1 = (s.size - 1) + n by omega, Nat.add_div_right _ hn]
theorem count_none (s : ByteArray) (n : Nat) (hn : 0 < n) (h : s.size = 0) : (s.size + n - 1) / n = 0 ∧ more s n = 0 := by
  unfold more
  rw [h]
  exact ⟨Nat.div_eq_of_lt (by omega), Nat.div_eq_of_lt (by omega)⟩
theorem take_one {l : List Prt} {k : Nat} {x : Prt} (h : l[k]? = some x) : l.take (k + 1) = l.take k ++ [x] := by
  rw [List.take_add_one, h]; rfl
abbrev err (n : Int) : Value := .iface 63 (.int .i64 n)

theorem fcut_big (s : ByteArray) (n : Int) (w : World) (h : 200 < s.size) :
    Calls Try.prog 18 #[.string s, .int .i64 n] w fun e w' => e = .returned (.tuple #[.slice none 0 0, .iface 63 (.int .i64 4)]) ∧ w' = w := by
  have t0 : decide ((s.size : Int) > 200) = true := decide_eq_true (by omega)
  go_enter Try.func18, Try.ntmps18
  go_wp2_with fail
  go_ret2
  exact ⟨rfl, rfl⟩
theorem fcut_range (s : ByteArray) (n : Int) (w : World) (h : s.size ≤ 200) (hn : n < 1 ∨ 200 < n) :
    Calls Try.prog 18 #[.string s, .int .i64 n] w fun e w' => e = .returned (.tuple #[.slice none 0 0, .iface 63 (.int .i64 1)]) ∧ w' = w := by
  have t0 : decide ((s.size : Int) > 200) = false := decide_eq_false (by omega)
  by_cases h1 : n < 1
  · have t1 : decide (n < 1) = true := decide_eq_true h1
    go_enter Try.func18, Try.ntmps18
    go_wp2_with fail
    go_ret2
    exact ⟨rfl, rfl⟩
  · have t1 : decide (n < 1) = false := decide_eq_false h1
    have t2 : decide (n > 200) = true := decide_eq_true (by omega)
    go_enter Try.func18, Try.ntmps18
    go_wp2_with fail
    go_ret2
    exact ⟨rfl, rfl⟩
set_option maxHeartbeats 1000000 in
theorem fcut_some (s : ByteArray) (n : Nat) (w : World) (h : s.size ≤ 200) (hn : 0 < n) (hn2 : n ≤ 200) (h40 : more s n < 40) :
    Calls Try.prog 18 #[.string s, .int .i64 n] w fun e w' => ∃ v, e = .returned (.tuple #[v, .nilIface]) ∧ OC lay 51 w' w.heap.size v (parts s n) ∧ Below w.heap.size w w' := by
  have t0 : decide ((s.size : Int) > 200) = false := decide_eq_false (by omega)
  have t1 : decide ((n : Int) < 1) = false := decide_eq_false (by omega)
  have t2 : decide ((n : Int) > 200) = false := decide_eq_false (by omega)
  have t9 : (n : Int) ≠ 0 := by omega
  obtain ⟨q, hq⟩ : ∃ q, (s.size + n - 1) / n = q := ⟨_, rfl⟩
  have t3 : ((s.size : Int) + (n : Int) - 1) / (n : Int) = (q : Int) := by rw [← hq, show ((s.size : Int) + (n : Int) - 1) = ((s.size + n - 1 : Nat) : Int) by omega, Int.natCast_ediv]
  have t3' : ((s.size : Int) + (n : Int) - 1).tdiv (n : Int) = (q : Int) := by rw [Int.tdiv_eq_ediv_of_nonneg (by omega)]; exact t3
  have hqb : q ≤ 400 := by rw [← hq]; exact Nat.le_trans (Nat.div_le_self _ _) (by omega)
  have hql : IntKind.i64.wrap (q : Int) = (q : Int) := by rw [IntKind.wrap_i64]; omega
  have HQ := Lib.hid hq
  have hqc : (if (1 : Int) < (q : Int) then (q : Int) else 1) = ((more s n + 1 : Nat) : Int) := by
    rw [← hq]
    rcases Nat.eq_zero_or_pos s.size with h0 | h0
    · have := count_none s n hn h0
      rw [this.1, this.2]; rfl
    · rw [count_some s n hn h0]
      split <;> omega
  clear hq
  obtain ⟨cn, hcn⟩ : ∃ cn, more s n + 1 = cn := ⟨_, rfl⟩
  rw [hcn] at hqc
  have hcb : cn ≤ 400 := by
    have := Nat.div_le_self (s.size - 1) n
    unfold more at hcn; omega
  have HCN := Lib.hid hcn
  have t5 : decide ((cn : Int) > 40) = false := decide_eq_false (by omega)
  clear hcn h40
  obtain ⟨mm, rfl⟩ : ∃ mm, cn = mm + 1 := ⟨more s n, HCN.out.symm⟩
  have hcm : mm < 40 := by have := HCN.out; have := of_decide_eq_false t5; omega
  go_enter Try.func18, Try.ntmps18
  go_wp2_with fail
  go_loopw [7, 34] (fun v iv wr => ∃ k : Nat, k ≤ mm + 1 ∧ iv = .int .i64 k ∧ OC lay 51 wr w.heap.size v ((parts s n).take k) ∧ Below w.heap.size w wr) (fun _ i _ => mm + 1 - (intOf i).toNat)
  case atStart => exact ⟨0, Nat.zero_le _, by rfl, OC.nil _ _ _ _, brefl _⟩
  case round =>
    obtain ⟨k, hk, rfl, hown, hB⟩ := hrel
    by_cases hlt : k < mm + 1
    · have s0 : decide ((k : Int) < ((mm : Int) + 1)) = true := decide_eq_true (by omega)
      have htl := tail_in s n hn
      have hpi := fun h7 => piece_in s n k hn h7
      have hkm : k * n ≤ s.size := Nat.le_trans (Nat.mul_le_mul_right _ (show k ≤ more s n by have := HCN.out; omega)) (more_le s n hn)
      have hmm : more s n = mm := by have := HCN.out; omega
      rw [hmm] at htl hpi
      have hpk := fun h7 => parts_get s n k h7
      have hpl := parts_last s n
      rw [hmm] at hpk hpl
      clear hmm
      have hpz : piece s n k = ⟨((k * n : Nat) : Int), true, s.extract (k * n) (k * n + n)⟩ := rfl
      have htz : tail s n mm = ⟨((mm * n : Nat) : Int), false, s.extract (mm * n) s.size⟩ := rfl
      have hlen : ((parts s n).take k).length ≤ 40 := by rw [List.length_take]; omega
      obtain ⟨at_, hat⟩ : ∃ x, k * n = x := ⟨_, rfl⟩
      have t6 : (k : Int) * (n : Int) = (at_ : Int) := by rw [← hat, Int.natCast_mul]
      have t6' : IntKind.i64.wrap (at_ : Int) = (at_ : Int) := by rw [IntKind.wrap_i64]; omega
      have hBs := hB.size
      obtain ⟨M, hM⟩ : ∃ M, (parts s n).take k = M := ⟨_, rfl⟩
      rw [hM] at hown hlen
      have HM := Lib.hid hM
      clear hM
      by_cases hkm2 : k < mm
      · have hp := hpi hkm2
        have hg := hpk hkm2
        rw [hat] at hp hkm
        have e1 : (at_ : Int) + (n : Int) ≤ (s.size : Int) := by omega
        have e2 : decide ((at_ : Int) + (n : Int) < (s.size : Int)) = true := decide_eq_true (by omega)
        have HG := Lib.hid (take_one hg)
        rw [HM.out, hpz, hat] at HG
        clear hpk hpl hpi htl hg hat hpz htz
        go_wp2_with (at_builtin
                     refine wp_appC ty rfl (.tmp 46) (.tmp 57) rfl w.heap.size _ M (some ⟨wr.heap.size, 0, none⟩) 1 1 [⟨(at_ : Int), true, s.extract at_ (at_ + n)⟩] rfl (hown.alloc _) rfl rfl (CI.one lay wr _ _) (by rw [List.length_singleton]; omega) (Nat.le_trans hBs (by simp)) ?_
                     intro v1 wa hown1 hg1 hat1
                     have hb1 : Below w.heap.size w wa := below_oneC hB hBs _ hown hg1
                     clear hat1 hg1)
        go_roundw
        case rel => exact ⟨k + 1, by omega, by go_num, by rw [HG.out]; exact hown1, hb1⟩
        case measure => simp [intOf]; omega
      · obtain rfl : k = mm := by omega
        have hg := hpl
        rw [hat] at htl hkm
        have e1 : (s.size : Int) ≤ (at_ : Int) + (n : Int) := by omega
        have HG := Lib.hid (take_one hg)
        rw [HM.out, htz, hat] at HG
        clear hpk hpl hpi htl hg hat hpz htz
        by_cases e4 : (at_ : Int) + (n : Int) ≤ (s.size : Int)
        · have e5 : (at_ : Int) + (n : Int) = (s.size : Int) := by omega
          have e6 : at_ + n = s.size := by omega
          go_wp2_with (at_builtin
                       refine wp_appC ty rfl (.tmp 46) (.tmp 57) rfl w.heap.size _ M (some ⟨wr.heap.size, 0, none⟩) 1 1 [⟨(at_ : Int), false, s.extract at_ s.size⟩] rfl (hown.alloc _) rfl rfl (CI.one lay wr _ _) (by rw [List.length_singleton]; omega) (Nat.le_trans hBs (by simp)) ?_
                       intro v1 wa hown1 hg1 hat1
                       have hb1 : Below w.heap.size w wa := below_oneC hB hBs _ hown hg1
                       clear hat1 hg1)
          go_roundw
          case rel => exact ⟨k + 1, by omega, by go_num, by rw [HG.out]; exact hown1, hb1⟩
          case measure => simp [intOf]
        · go_wp2_with (at_builtin
                       refine wp_appC ty rfl (.tmp 46) (.tmp 57) rfl w.heap.size _ M (some ⟨wr.heap.size, 0, none⟩) 1 1 [⟨(at_ : Int), false, s.extract at_ s.size⟩] rfl (hown.alloc _) rfl rfl (CI.one lay wr _ _) (by rw [List.length_singleton]; omega) (Nat.le_trans hBs (by simp)) ?_
                       intro v1 wa hown1 hg1 hat1
                       have hb1 : Below w.heap.size w wa := below_oneC hB hBs _ hown hg1
                       clear hat1 hg1)
          go_roundw
          case rel => exact ⟨k + 1, by omega, by go_num, by rw [HG.out]; exact hown1, hb1⟩
          case measure => simp [intOf]
    · have s0 : decide ((k : Int) < ((mm : Int) + 1)) = false := decide_eq_false (by omega)
      obtain rfl : k = mm + 1 := by omega
      have hall : (parts s n).take (mm + 1) = parts s n := List.take_of_length_le (by rw [parts_len]; have := HCN.out; omega)
      rw [hall] at hown
      go_wp2_with fail
      go_ret2
      exact ⟨_, rfl, hown, hB⟩
set_option maxHeartbeats 1000000 in
theorem fcut_many (s : ByteArray) (n : Nat) (w : World) (h : s.size ≤ 200) (hn : 0 < n) (hn2 : n ≤ 200) (h40 : 40 ≤ more s n) :
    Calls Try.prog 18 #[.string s, .int .i64 n] w fun e w' => e = .returned (.tuple #[.slice none 0 0, .iface 63 (.int .i64 4)]) ∧ w' = w := by
  have t0 : decide ((s.size : Int) > 200) = false := decide_eq_false (by omega)
  have t1 : decide ((n : Int) < 1) = false := decide_eq_false (by omega)
  have t2 : decide ((n : Int) > 200) = false := decide_eq_false (by omega)
  have t9 : (n : Int) ≠ 0 := by omega
  obtain ⟨q, hq⟩ : ∃ q, (s.size + n - 1) / n = q := ⟨_, rfl⟩
  have t3 : ((s.size : Int) + (n : Int) - 1) / (n : Int) = (q : Int) := by rw [← hq, show ((s.size : Int) + (n : Int) - 1) = ((s.size + n - 1 : Nat) : Int) by omega, Int.natCast_ediv]
  have t3' : ((s.size : Int) + (n : Int) - 1).tdiv (n : Int) = (q : Int) := by rw [Int.tdiv_eq_ediv_of_nonneg (by omega)]; exact t3
  have hqb : q ≤ 400 := by rw [← hq]; exact Nat.le_trans (Nat.div_le_self _ _) (by omega)
  have hql : IntKind.i64.wrap (q : Int) = (q : Int) := by rw [IntKind.wrap_i64]; omega
  have HQ := Lib.hid hq
  have hqc : (if (1 : Int) < (q : Int) then (q : Int) else 1) = ((more s n + 1 : Nat) : Int) := by
    rw [← hq]
    rcases Nat.eq_zero_or_pos s.size with h0 | h0
    · have := count_none s n hn h0
      rw [this.1, this.2]; rfl
    · rw [count_some s n hn h0]
      split <;> omega
  clear hq
  obtain ⟨cn, hcn⟩ : ∃ cn, more s n + 1 = cn := ⟨_, rfl⟩
  rw [hcn] at hqc
  have hcb : cn ≤ 400 := by
    have := Nat.div_le_self (s.size - 1) n
    unfold more at hcn; omega
  have HCN := Lib.hid hcn
  have t5 : decide ((cn : Int) > 40) = true := decide_eq_true (by omega)
  clear hcn
  go_enter Try.func18, Try.ntmps18
  go_wp2_with fail
  go_ret2
  exact ⟨rfl, rfl⟩
/-- Whatever is wrong. -/
theorem fcut_bad (s : ByteArray) (n : Int) (w : World) (m : Int) (hm : cutBad s n = m) (h0 : m ≠ 0) :
    Calls Try.prog 18 #[.string s, .int .i64 n] w fun e w' => e = .returned (.tuple #[.slice none 0 0, .iface 63 (.int .i64 m)]) ∧ w' = w := by
  unfold cutBad at hm
  by_cases h1 : 200 < s.size
  · rw [if_pos h1] at hm
    subst hm
    exact fcut_big s n w h1
  · rw [if_neg h1] at hm
    by_cases h2 : n < 1 ∨ 200 < n
    · rw [if_pos h2] at hm
      subst hm
      exact fcut_range s n w (by omega) h2
    · rw [if_neg h2] at hm
      by_cases h3 : 40 < more s n.toNat + 1
      · rw [if_pos h3] at hm
        subst hm
        obtain ⟨k, rfl⟩ : ∃ k : Nat, n = (k : Int) := ⟨n.toNat, by omega⟩
        exact fcut_many s k w (by omega) (by omega) (by omega) (by rw [Int.toNat_natCast] at h3; omega)
      · rw [if_neg h3] at hm
        exact absurd hm.symm h0
theorem cutBad_zero {s : ByteArray} {n : Int} (h : cutBad s n = 0) : s.size ≤ 200 ∧ ∃ k : Nat, n = (k : Int) ∧ 0 < k ∧ k ≤ 200 ∧ more s k < 40 := by
  unfold cutBad at h
  by_cases h1 : 200 < s.size
  · rw [if_pos h1] at h; cases h
  · rw [if_neg h1] at h
    by_cases h2 : n < 1 ∨ 200 < n
    · rw [if_pos h2] at h; cases h
    · rw [if_neg h2] at h
      by_cases h3 : 40 < more s n.toNat + 1
      · rw [if_pos h3] at h; cases h
      · exact ⟨by omega, n.toNat, by omega, by omega, by omega, by omega⟩
end Go.Proofs.Ytcleanjacijfoaa.Part
