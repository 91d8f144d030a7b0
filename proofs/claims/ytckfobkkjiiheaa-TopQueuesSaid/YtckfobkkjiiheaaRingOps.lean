/- Package ring: Gap. No statement is proved here. -/
import Derived.Test.YtckfobkkjiiheaaRing2
import Derived.Test.YtckfobkkjiiheaaMapZ
namespace Go.Proofs.Ytckfobkkjiiheaa.Ring
open Go.ChangeShapes Go.WideShapes Go.ChangeAt Go.RowKit Go.Proofs.Ytckfobkkjiiheaa.Kit Go.Proofs.Ytckfobkkjiiheaa.App Go.Proofs.Ytckfobkkjiiheaa.Err Go.Proofs.Ytckfobkkjiiheaa.RingMath Go.Proofs.Ytckfobkkjiiheaa.MapZ
set_option linter.unusedVariables false
set_option maxRecDepth 20000
set_option maxHeartbeats 2000000

theorem gap_bad (p : Option Addr) (cap n : Nat) (l : List Int) (x : Int) (w : World) (hn : n = l.length) (hi : Ints w p cap l) (c : Int) (hc : codeH l x = c) (h0 : c ≠ 0) :
    Calls Try.prog 9 #[.slice p n cap, .int .i64 x] w fun e w' => e = .returned (.tuple #[.int .i64 0, er c]) ∧ Below w.heap.size w w' := by
  have RB := Lib.hid (run_bad p cap n l x w hn hi c hc h0)
  rw [er_ne h0] at RB ⊢
  clear hn hi hc h0
  go_enter Try.func9, Try.ntmps9
  go_wp2_with fail
  refine RB.out.mono ?_; rintro e w1 ⟨rfl, hb⟩
  have HB := Lib.hid hb
  clear RB hb
  go_wp2_with fail
  go_ret2
  exact ⟨rfl, HB.out⟩
theorem ints_stay {w W : World} {p : Option Addr} {c : Nat} {l : List Int} (o : Obj) (hi : Ints w p c l) (hg : (w.alloc o).grownBy W (some w.heap.size)) : Ints W p c l :=
  hi.keep (by have := hg.size; simp at this; omega) (fun a ha hlt => by
    rw [hg.block a.block (by simp; omega) (fun e => by injection e with e; omega)]
    exact Below.heap_alloc w o a.block hlt)
theorem gtr {a b c : World} {r : Option Nat} (h : a.grownBy b r) (k : b.grownBy c r) : a.grownBy c r :=
  ⟨k.os.trans h.os, k.tape.trans h.tape, k.output.trans h.output, Nat.le_trans h.size k.size, fun j hj hne => (k.block j (Nat.lt_of_lt_of_le hj h.size) hne).trans (h.block j hj hne)⟩
set_option maxHeartbeats 4000000 in
theorem gap_good (p : Option Addr) (cap n : Nat) (l : List Int) (h : Nat) (w : World) (hn : n = l.length) (hi : Ints w p cap l) (g : Good l h) :
    Calls Try.prog 9 #[.slice p n cap, .int .i64 (h : Int)] w fun e w' => e = .returned (.tuple #[.int .i64 ((gap (ord l h) : Nat) : Int), .nilIface]) ∧ Below w.heap.size w w' := by
  have RG := Lib.hid (run_good p cap n l h w hn hi g)
  have hL := g.len.2
  have HB8 := Lib.hid (show ∀ (k x : Nat), (ord l h)[k]? = some x → x ≤ 8 from fun k x hx => by
    have := mem_order (List.mem_of_getElem? hx)
    have := g.up
    omega)
  obtain ⟨G, hG⟩ : ∃ G, gap (ord l h) = G := ⟨_, rfl⟩
  rw [hG]
  have HG := Lib.hid hG
  clear hn hi g hG
  generalize ord l h = L at RG hL HB8 HG
  go_enter Try.func9, Try.ntmps9
  go_wp2_with fail
  refine RG.out.mono ?_; rintro e w1 ⟨v, rfl, hv, hb⟩
  obtain ⟨u, cu, rfl, hiu⟩ := hv.form
  obtain ⟨m, hm⟩ : ∃ m, (nat L).length = m := ⟨_, rfl⟩
  have hm2 : m ≤ 160 := by rw [← hm, nat_len]; exact hL
  have hlen := hiu.len_le
  rw [hm] at hlen ⊢
  have HM := Lib.hid (show m = L.length by rw [← hm, nat_len])
  have HB := Lib.hid hb
  have HI := Lib.hid hiu
  have HMZ := Lib.hid (Mz.made w1)
  have HG0 := Lib.hid (grefl (w1.alloc (.map #[] 0)) (some w1.heap.size))
  clear RG hv hb hiu hm hL
  have hmm := @run_makeMap Try.prog
  go_wp2_with fail
  go_loopw [9, 26] (fun gv iv wr => ∃ (k gp : Nat) (q : Int → Option Int), k ≤ m ∧ gp ≤ 160 ∧ iv = .int .i64 k ∧ gv = .int .i64 gp ∧ Hid (Mz wr w1.heap.size k q) ∧ Hid ((w1.alloc (.map #[] 0)).grownBy wr (some w1.heap.size)) ∧ Hid (GapUp L k gp) ∧ Hid (Lst L k (fun x => q (x : Int)))) (fun _ i _ => m - (intOf i).toNat)
  case atStart => exact ⟨0, 0, _, Nat.zero_le _, Nat.zero_le _, rfl, rfl, HMZ, HG0, Lib.hid (gapUp_zero L), Lib.hid (lst_zero L)⟩
  case round =>
    clear HMZ HG0
    obtain ⟨k, gp, q, hk, hgp, rfl, rfl, HZ, HW, HP, HL⟩ := hrel
    by_cases hlt : k < m
    · have u1 : decide ((k : Int) < (m : Int)) = true := decide_eq_true (by omega)
      have hkl : k < L.length := by rw [← HM.out]; exact hlt
      obtain ⟨x, hx⟩ : ∃ x, L[k]? = some x := ⟨_, List.getElem?_eq_getElem hkl⟩
      have hiw := ints_stay _ HI.out HW.out
      obtain ⟨b, off, rfl, _, hc⟩ := hiw.2.2.2 (by rw [nat_len]; omega)
      have hck := hc k (by rw [nat_len]; exact hkl)
      rw [nat_get hx] at hck
      have hx8 := HB8.out k x hx
      have hwx : (Lit.int .i64 (x : Int)).wf = true := wf_small (by omega)
      have hlk := HZ.out.look_ok hwx
      have HX := Lib.hid hx
      have HL2 := Lib.hid (lst_next HL.out hx)
      have HU := Lib.hid (show (fun y : Nat => WheelMath.updZ q (x : Int) (some (k : Int)) (y : Int)) = fun y : Nat => if y = x then some (k : Int) else q (y : Int) from funext fun y => by
        by_cases e : y = x
        · subst e; rw [if_pos rfl, WheelMath.updZ_same]
        · rw [if_neg e, WheelMath.updZ_other _ _ (by omega)])
      clear hkl hc hiw hx
      cases hq : q (x : Int) with
      | none =>
        rw [hq] at hlk
        have hlk : (Instr.lookup 42 (.map (some w1.heap.size)) (.int .i64 (x : Int)) true).run Try.prog wr = .ok (.tuple #[.int .i64 0, .bool false]) wr := hlk
        have HP2 := Lib.hid (gapUp_none HP.out (n := k) (fun j hj => by rw [HX.out]; exact HL.out.none x hq j hj))
        clear hq
        go_wp2_with (at_mapUpdate
                     refine wp_put rfl (.tmp 44) (.tmp 45) (.tmp 46) rfl HZ.out (by omega) (x : Int) (k : Int) hwx (wf_of (by omega)) rfl rfl rfl ?_
                     intro w3 hm3 hg3
                     have HZ3 := Lib.hid hm3
                     have HW3 := Lib.hid (gtr HW.out hg3)
                     clear hm3 hg3)
        go_roundw
        case rel => exact ⟨k + 1, gp, _, by omega, hgp, by first | rfl | go_num, rfl, HZ3, HW3, HP2, Lib.hid (by rw [HU.out]; exact HL2.out)⟩
        case measure => simp [intOf]; omega
      | some v =>
        rw [hq] at hlk
        obtain ⟨i, rfl, hik, hnx⟩ := lst_nx HL.out HX.out hq
        have hlk : (Instr.lookup 42 (.map (some w1.heap.size)) (.int .i64 (x : Int)) true).run Try.prog wr = .ok (.tuple #[.int .i64 (i : Int), .bool true]) wr := hlk
        obtain ⟨d1, hd1⟩ : ∃ d1, k - i = d1 := ⟨_, rfl⟩
        obtain ⟨d, hd⟩ : ∃ d, d1 - 1 = d := ⟨_, rfl⟩
        have s1 : (k : Int) - (i : Int) = (d1 : Int) := by omega
        have s2 : (d1 : Int) - 1 = (d : Int) := by omega
        obtain ⟨g2, hg2⟩ : ∃ g2, (if gp < d then d else gp) = g2 := ⟨_, rfl⟩
        have s3 : (if (gp : Int) < (d : Int) then (d : Int) else (gp : Int)) = (g2 : Int) := by rw [← hg2]; split <;> split <;> omega
        have s4 : (if gp < d then (d : Int) else (gp : Int)) = (g2 : Int) := by rw [← hg2]; split <;> rfl
        have hd160 : d ≤ 160 := by omega
        have hg160 : g2 ≤ 160 := by rw [← hg2]; split <;> omega
        have HP2 := Lib.hid (show GapUp L (k + 1) g2 by
          have h2 := gapUp_some HP.out hnx
          rw [hd1, hd, hg2] at h2
          exact h2)
        clear hq hik hnx hd1 hd hg2
        go_wp2_with (at_mapUpdate
                     refine wp_put rfl (.tmp 44) (.tmp 45) (.tmp 46) rfl HZ.out (by omega) (x : Int) (k : Int) hwx (wf_of (by omega)) rfl rfl rfl ?_
                     intro w3 hm3 hg3
                     have HZ3 := Lib.hid hm3
                     have HW3 := Lib.hid (gtr HW.out hg3)
                     clear hm3 hg3)
        go_roundw
        case rel => exact ⟨k + 1, g2, _, by omega, hg160, by first | rfl | go_num, rfl, HZ3, HW3, HP2, Lib.hid (by rw [HU.out]; exact HL2.out)⟩
        case measure => simp [intOf]; omega
    · obtain rfl : k = m := by omega
      have u1 : decide ((k : Int) < (k : Int)) = false := decide_eq_false (by omega)
      have HE := Lib.hid (show gp = G by
        have h2 := HP.out
        rw [HM.out] at h2
        rw [← HG.out, gapUp_end h2])
      go_wp2_with fail
      go_ret2
      exact ⟨by rw [HE.out]; rfl, gbelow (balloc HB.out _) (Nat.le_refl _) HW.out HB.out.size⟩
end Go.Proofs.Ytckfobkkjiiheaa.Ring
