/- Package rounds: inOrder. No statement is proved here. -/
import Derived.Test.YtckfobkkjiiheaaPacketSort
import Derived.Test.YtckfobkkjiiheaaRoundsFew
import Derived.Test.YtckfobkkjiiheaaDrrCells
namespace Go.Proofs.Ytckfobkkjiiheaa.Rounds
open Go.ChangeShapes Go.WideShapes Go.ChangeAt Go.RowKit Go.Proofs.Ytckfobkkjiiheaa.Kit Go.Proofs.Ytckfobkkjiiheaa.App Go.Proofs.Ytckfobkkjiiheaa.Cells Go.Proofs.Ytckfobkkjiiheaa.Err Go.Proofs.Ytckfobkkjiiheaa.Drr
set_option linter.unusedVariables false
set_option maxRecDepth 20000
set_option maxHeartbeats 1000000

/-- The packets that inOrder gathers. -/
structure PS (w0 w : World) (v : Value) (m : List Pk) : Prop where
  own : OC lay 60 w w0.heap.size v m
  bel : Below w0.heap.size w0 w
variable {w0 w w' : World} {v v' : Value} {m m' : List Pk}
theorem PS.nil (w : World) : PS w w (.slice none 0 0) [] := ⟨OC.nil _ _ _ _, brefl w⟩
theorem PS.alloc (H : PS w0 w v m) (o : Obj) : PS w0 (w.alloc o) v m := ⟨H.own.alloc o, balloc H.bel o⟩
theorem PS.app (H : PS w0 w v m) (ho : OC lay 60 w' w0.heap.size v' m') (hg : w.grownBy w' v.ownBlock) : PS w0 w' v' m' := ⟨ho, below_appC H.bel H.own hg H.bel.size⟩
/-- A row that came. -/
theorem row_at {w : World} {p : Option Addr} {cap : Nat} {ls : List (List Int)} (h : RowsI w p cap ls) {k : Nat} (hk : k < ls.length) :
    ∃ b off q c, p = some ⟨b, off, none⟩ ∧ Ints w q c (row ls k) ∧ ∀ W : World, Below w.heap.size w W → W.cell? ⟨b, off + k, none⟩ = some (.slice q (row ls k).length c) := by
  obtain ⟨b, off, e, hb, hc⟩ := h.2.2 (by omega)
  obtain ⟨q, c, h1, h2⟩ := hc k hk
  exact ⟨b, off, q, c, e, h2, fun W hW => (hW.cell (p := ⟨b, off + k, none⟩) hb).trans h1⟩
theorem inOrder_bad (p : Option Addr) (cap n : Nat) (qs : List (List Int)) (w : World) (hn : n = qs.length) (hi : RowsI w p cap qs) (c : Int) (hc : code qs = c) (h0 : c ≠ 0) :
    Calls Try.prog 30 #[.slice p n cap] w fun e w' => e = .returned (.tuple #[.slice none 0 0, er c]) ∧ w' = w := by
  have CB := Lib.hid (check_any p cap n qs w hn hi c hc)
  rw [er_ne h0] at CB ⊢
  clear hn hi hc h0
  go_enter Try.func30, Try.ntmps30
  go_wp2_with fail
  refine CB.out.mono ?_; rintro e w1 ⟨rfl, rfl⟩
  go_wp2_with fail
  go_ret2
  exact ⟨rfl, rfl⟩
theorem pks_step {l : List Int} {j k : Nat} (h : j < l.length) : pks k 0 (l.take (j + 1)) = pks k 0 (l.take j) ++ [⟨k, l[j]?.getD 0, tot (l.take j) + l[j]?.getD 0⟩] := by
  rw [take_step h, pks_append, Int.zero_add]
  rfl
theorem allTo_len (qs : List (List Int)) (k : Nat) (hg : Drr.Good qs) : (allTo qs k).length ≤ 40 := by
  have h : Drr.Good (qs.take k) := ⟨Nat.le_trans (by rw [List.length_take]; omega) hg.1, fun l hl => hg.2 l (List.mem_of_mem_take hl)⟩
  have := things_le h
  unfold allTo
  rw [allFrom_len]
  exact this
theorem inOrder_good (p : Option Addr) (cap n : Nat) (ls : List (List Int)) (w : World) (hn : n = ls.length) (hi : RowsI w p cap ls) (hg : Drr.Good ls) (u : List Pk) (hu : Srt ls u) (k : Nat) (hk : u.length = k) :
    Calls Try.prog 30 #[.slice p n cap] w fun e w' => (∃ r cr, e = .returned (.tuple #[.slice r k cr, .nilIface]) ∧ CI lay w' r cr u) ∧ Below w.heap.size w w' := by
  have CB := Lib.hid (check_any p cap n ls w hn hi 0 (code_zero.2 hg))
  rw [er_0] at CB
  have HI := Lib.hid (fun k (hk : k < ls.length) => row_at hi hk)
  have HN := Lib.hid hn
  have HG := Lib.hid hg
  have HU := Lib.hid hu
  have HK := Lib.hid (show (allP ls).length = k by rw [← hk, hu.perm.length_eq])
  have HAL := Lib.hid (fun k => allTo_len ls k hg)
  have hn5 : n ≤ 5 := by rw [hn]; exact hg.1
  clear hn hi hg hu hk
  go_enter Try.func30, Try.ntmps30
  go_wp2_with fail
  refine CB.out.mono ?_; rintro e w1 ⟨rfl, hw1⟩
  have HS0 := Lib.hid (show PS w w1 (.slice none 0 0) (allTo ls 0) by rw [hw1, allTo_zero]; exact PS.nil w)
  clear hw1
  go_wp2_with fail
  go_loopw [5, 18] (fun ov iv wr => ∃ (i : Nat) (o : Value), i ≤ n ∧ iv = .int .i64 i ∧ o = ov ∧ Hid (PS w wr o (allTo ls i))) (fun _ i _ => n - (intOf i).toNat)
  case atStart => exact ⟨0, _, Nat.zero_le _, rfl, rfl, HS0⟩
  case round =>
    clear HS0
    obtain ⟨i, o, hi, rfl, rfl, HS⟩ := hrel
    by_cases hlt : i < n
    · have u1 : decide ((i : Int) < (n : Int)) = true := decide_eq_true (by omega)
      have hil : i < ls.length := by rw [← HN.out]; exact hlt
      obtain ⟨b, off, q, c, rfl, hin, hcell⟩ := HI.out i hil
      have hck := hcell wr HS.out.bel
      have HROW := Lib.hid (HG.out.row i)
      have HAS := Lib.hid (allTo_succ hil)
      have hal := HAL.out i
      generalize row ls i = l at hin hcell hck HROW HAS
      have HIN := Lib.hid hin
      obtain ⟨m, hm⟩ : ∃ m, l.length = m := ⟨_, rfl⟩
      rw [hm] at hck
      have HM := Lib.hid hm
      have hm8 : m ≤ 8 := by rw [← hm]; exact HROW.out.1
      have HS1 := Lib.hid (show PS w wr o (allTo ls i ++ pks i 0 (l.take 0)) by rw [List.take_zero]; show PS w wr o (allTo ls i ++ []); rw [List.append_nil]; exact HS.out)
      generalize allTo ls i = A at HS HS1 HAS hal
      clear hil hin hcell hm HI HS
      go_wp2_with fail
      go_loopw [5, 8, 25] (fun ov sv jv wr => ∃ (j : Nat) (s : Int) (o : Value), j ≤ m ∧ jv = .int .i64 j ∧ sv = .int .i64 s ∧ 0 ≤ s ∧ s ≤ 20 * j ∧ o = ov ∧ Hid (s = tot (l.take j)) ∧ Hid (PS w wr o (A ++ pks i 0 (l.take j)))) (fun _ _ j _ => m - (intOf j).toNat)
      case atStart => exact ⟨0, 0, _, Nat.zero_le _, rfl, rfl, by omega, by omega, rfl, Lib.hid (by simp [tot]), HS1⟩
      case round =>
        clear HS1
        obtain ⟨j, s, o, hj, rfl, rfl, s0, s1, rfl, HT, HS2⟩ := hrel
        by_cases hjm : j < m
        · have u2 : decide ((j : Int) < (m : Int)) = true := decide_eq_true (by omega)
          have hjl : j < l.length := by rw [HM.out]; exact hjm
          have HIW := Lib.hid (HIN.out.below HS2.out.bel)
          obtain ⟨qb, qo, rfl⟩ := some_ints HIW.out (by omega)
          have hcy := cell_ints HIW.out j hjl
          have hy := HROW.out.2 (l[j]?.getD 0) (by rw [List.getElem?_eq_getElem hjl]; exact List.getElem_mem hjl)
          have HPS := Lib.hid (pks_step (k := i) hjl)
          have HTS := Lib.hid (tot_take_step hjl)
          rw [← HT.out] at HPS HTS
          generalize l[j]?.getD 0 = y at hcy hy HPS HTS
          obtain ⟨y0, y1⟩ := hy
          have hlen : (pks i 0 (l.take j)).length ≤ 8 := by rw [pks_len, List.length_take]; omega
          have HS3 := Lib.hid (HS2.out.alloc (.cells #[.int .i64 (i : Int), .int .i64 y, .int .i64 (s + y)] 60))
          clear hjl
          go_wp2_with (first
            | (at_builtin
               refine wp_appC ty rfl (.tmp 32) (.tmp 37) rfl w.heap.size o (A ++ pks i 0 (l.take j)) (some ⟨wr.heap.size, 0, none⟩) 1 1 [(⟨(i : Int), y, s + y⟩ : Pk)] rfl HS3.out.own rfl rfl (CI.one lay wr ⟨(i : Int), y, s + y⟩ _) (by simp; omega) HS3.out.bel.size ?_
               intro o2 w6 ho2 hg2 hat2
               have HS4 := Lib.hid (HS3.out.app ho2 hg2)
               clear ho2 hg2 hat2))
          go_roundw
          case rel => exact ⟨j + 1, s + y, o2, by omega, by first | rfl | go_num, by first | rfl | go_num, by omega, by omega, rfl, Lib.hid HTS.out.symm, Lib.hid (by rw [HPS.out, ← List.append_assoc]; exact HS4.out)⟩
          case measure => simp [intOf]; omega
        · obtain rfl : j = m := by omega
          have u2 : decide ((j : Int) < (j : Int)) = false := decide_eq_false (by omega)
          have HS5 := Lib.hid (show PS w wr o (allTo ls (i + 1)) by
            have := HS2.out
            rw [← HM.out, List.take_length] at this
            rw [HAS.out]; exact this)
          clear HS2 HAS HT
          go_wp2_with fail
          go_roundw
          case rel => exact ⟨i + 1, o, by omega, by first | rfl | go_num, rfl, HS5⟩
          case measure => simp [intOf]; omega
    · obtain rfl : i = n := by omega
      have u1 : decide ((i : Int) < (i : Int)) = false := decide_eq_false (by omega)
      have HS6 := Lib.hid (show PS w wr o (allP ls) by have := HS.out; rw [HN.out, allTo_end] at this; exact this)
      obtain ⟨pv, cv, hv, _⟩ := HS6.out.own.form
      rw [HK.out] at hv
      subst hv
      have hk40 : k ≤ 40 := by rw [← HK.out, ← allTo_end]; exact HAL.out _
      have SO := Lib.hid (sorted_any w wr pv cv k (allP ls) HK.out.symm HS6.out.own HS6.out.bel (by rw [HK.out]; omega))
      clear HS HS6 HAL HI
      go_wp2_with fail
      refine SO.out.mono ?_; rintro e w2 ⟨rfl, m', h1, h2, h3, h4⟩
      have HE := Lib.hid (show CI lay w2 pv cv u by rw [← (Srt.of HG.out h1 h2).uniq HU.out]; exact h3)
      clear SO h1 h2 h3
      go_wp2_with fail
      go_ret2
      exact ⟨⟨_, _, rfl, HE.out⟩, h4⟩
/-- What inOrder tells, right or wrong. -/
theorem inOrder_any (p : Option Addr) (cap n : Nat) (ls : List (List Int)) (w : World) (hn : n = ls.length) (hi : RowsI w p cap ls) (c : Int) (hc : code ls = c) (u : List Pk) (h0 : c = 0 → Srt ls u) (h1 : c ≠ 0 → u = []) (k : Nat) (hk : u.length = k) :
    Calls Try.prog 30 #[.slice p n cap] w fun e w' => (∃ r cr, e = .returned (.tuple #[.slice r k cr, er c]) ∧ CI lay w' r cr u) ∧ Below w.heap.size w w' := by
  by_cases hz : c = 0
  · subst hz
    exact inOrder_good p cap n ls w hn hi (code_zero.1 hc) u (h0 rfl) k hk
  · obtain rfl := h1 hz
    obtain rfl : k = 0 := hk.symm
    refine (inOrder_bad p cap n ls w hn hi c hc hz).mono ?_
    rintro e w' ⟨rfl, rfl⟩
    exact ⟨⟨none, 0, rfl, CI.nil _ _⟩, brefl _⟩
end Go.Proofs.Ytckfobkkjiiheaa.Rounds
