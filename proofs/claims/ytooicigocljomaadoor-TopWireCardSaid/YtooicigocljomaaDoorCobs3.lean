/- Contracts of decode and Read of package cobs. No statement is proved here. -/
import Derived.Test.YtooicigocljomaaDoorCobs2
namespace Go.Proofs.YtooicigocljomaaDoor.Cobs
open Go.ChangeShapes Go.WideShapes Go.ChangeAt Go.RowKit
open Go.Proofs.YtooicigocljomaaDoor.Kit Go.Proofs.YtooicigocljomaaDoor.App Go.Proofs.YtooicigocljomaaDoor.CobsMath
set_option linter.unusedVariables false
set_option maxRecDepth 20000

/-- Where the rest behind k numbers lies. -/
theorem part_at {b off c2 : Nat} {m : List Int} {k n : Nat} {pb : Option Addr} (h : pb = some ⟨b, off + k, none⟩ ∨ n = 0) (hk : k + n ≤ m.length) (c : Nat) (hc : n ≤ c) (hcm : c ≤ maxLen) :
    ∀ W, Ints W (some ⟨b, off, none⟩) c2 m → Ints W pb c ((m.drop k).take n) := by
  intro W hW
  rcases h with rfl | rfl
  · exact ints_sub hW k n c hk hc hcm
  · exact ints_none W pb c _ hcm (by simp)
theorem rest_at {b off c2 : Nat} {m : List Int} {k : Nat} {pb : Option Addr} (h : pb = some ⟨b, off + k, none⟩ ∨ m.length ≤ k) (hk : k ≤ m.length) (c : Nat) (hc : m.length - k ≤ c) (hcm : c ≤ maxLen) :
    ∀ W, Ints W (some ⟨b, off, none⟩) c2 m → Ints W pb c (m.drop k) := by
  intro W hW
  rcases h with rfl | h
  · exact ints_tail hW k c hk hc hcm
  · exact ints_none W pb c _ hcm (List.drop_eq_nil_of_le h)

set_option maxHeartbeats 4000000 in
theorem decode_any (p : Option Addr) (cap n : Nat) (l : List Int) (w : World) (hn : n = l.length) (h : Ints w p cap l) (hl : l.length ≤ 1200) (hb : byt l = true) (R : Option (List Int)) (hR : R = dec l) :
    Calls Tryd.prog 37 #[.slice p n cap] w fun e w' => ∃ v, e = .returned (.tuple #[v, .bool R.isSome]) ∧ (∀ x, R = some x → OwnI w' w.heap.size v x) ∧ Below w.heap.size w w' := by
  subst hn
  have hR0 : Hid (R = (dec l).map ([] ++ ·)) := by
    show R = _
    rw [hR]
    cases dec l <;> rfl
  have hb0 := Lib.hid hb
  clear hR hb
  go_enter Tryd.func37, Tryd.ntmps37
  go_wp2_with fail
  go_loopw [2, 4] (fun v r wr => ∃ (out m : List Int) (p2 : Option Addr) (c2 : Nat), r = .slice p2 m.length c2 ∧ Ints w p2 c2 m ∧ Hid (byt m = true) ∧ out.length + m.length ≤ l.length ∧ OwnI wr w.heap.size v out ∧ Below w.heap.size w wr ∧ Hid (R = (dec m).map (out ++ ·))) (fun v r _ => slen r)
  case atStart => exact ⟨[], l, p, cap, rfl, h, hb0, by simp, OwnI.nil _ _, brefl _, hR0⟩
  case round =>
    obtain ⟨out, m, p2, c2, rfl, hm, hbm, hlm, hown, hB, HE⟩ := hrel
    by_cases hlt : 0 < m.length
    · obtain ⟨b, off, rfl, hbw, hc⟩ := hm.2.2.2 hlt
      have hck : wr.cell? ⟨b, off, none⟩ = some (.int .i64 (m[0]?.getD 0)) := (hB.cell (p := ⟨b, off, none⟩) hbw).trans (hc 0 hlt)
      have hbx := byt_get hbm.out 0
      clear hc
      obtain ⟨x, hx⟩ : ∃ x, m[0]?.getD 0 = x := ⟨_, rfl⟩
      rw [hx] at hck hbx
      obtain ⟨k, rfl⟩ : ∃ k : Nat, x = (k : Int) := ⟨x.toNat, by omega⟩
      have HS := Lib.hid (dec_round HE.out hlt hx)
      clear hx
      have hcap := hm.1
      have hcapm := hm.2.1
      have hcapm' : c2 ≤ 9223372036854775807 := by unfold maxLen at hcapm; omega
      have hBs := hB.size
      have t0 : decide ((m.length : Int) > 0) = true := decide_eq_true (by omega)
      by_cases h0 : k = 0
      · have hn := Lib.hid (HS.out.1 h0)
        subst h0
        go_wp2_with fail
        go_ret2
        exact ⟨.slice none 0 0, by rw [hn.out]; exact rfl, (fun y hy => by rw [hn.out] at hy; cases hy), hB⟩
      · have t1 : ((k : Int) == 0) = false := by rw [beq_eq_false_iff_ne]; omega
        by_cases h1 : m.length < k
        · have hn := Lib.hid (HS.out.2.1 h1)
          have t2 : decide ((m.length : Int) < (k : Int)) = true := decide_eq_true (by omega)
          go_wp2_with fail
          go_ret2
          exact ⟨.slice none 0 0, by rw [hn.out]; exact rfl, (fun y hy => by rw [hn.out] at hy; cases hy), hB⟩
        · have t2 : decide ((m.length : Int) < (k : Int)) = false := decide_eq_false (by omega)
          have f1 : 1 ≤ k := by omega
          have f2 : k ≤ c2 := by omega
          by_cases hc1 : c2 = 1
          · obtain rfl : c2 = 1 := hc1
            obtain rfl : k = 1 := by omega
            have hbl : ((m.drop 1).take (1 - 1)).length = 1 - 1 := by rw [List.length_take, List.length_drop]; omega
            have hblk := part_at (b := b) (off := off) (c2 := 1) (m := m) (k := 1) (n := 1 - 1) (pb := some ⟨b, off, none⟩) (.inr rfl) (by omega) (0) (by omega) (by omega)
            have HS2 := HS.out.2.2 h0 (by omega)
            obtain ⟨blk, hbk⟩ : ∃ blk, (m.drop 1).take (1 - 1) = blk := ⟨_, rfl⟩
            rw [hbk] at hbl hblk HS2
            clear hbk
            have hq : ¬ run blk < blk.length := by rw [hbl]; omega
            · have CT := Lib.hid (contains_any (some ⟨b, off, none⟩) (0) (1 - 1) blk wr hbl.symm (hblk _ (hm.below hB)) false (by simp [hq]))
              have HS3 := Lib.hid (HS2.2 (by rw [hbl] at hq; omega))
              have hdl : (m.drop 1).length = m.length - 1 := List.length_drop
              have hbd := Lib.hid (byt_drop hbm.out 1)
              clear HS2 hq
              have t3 : (((1 : Nat) : Int) != 255) = true := by decide
              have t4 : decide (((m.length - 1 : Nat) : Int) > 0) = false := decide_eq_false (by omega)
              go_wp2_with fail
              refine CT.out.mono ?_; rintro e w1 ⟨rfl, rfl⟩
              go_wp2_with (first
                        | (at_builtin
                           refine wp_app rfl (.tmp 27) (.tmp 28) rfl w.heap.size _ out (some ⟨b, off, none⟩) (0) (1 - 1) blk rfl hown rfl hbl.symm (hblk _ (hm.below hB)) (by omega) hBs ?_
                           intro va wa howna hga hata
                           have hBa : Below w.heap.size w wa := below_app hB hown hga hBs
                           clear hata hga))
              go_roundw
              case rel => exact ⟨out ++ blk, m.drop 1, some ⟨b, off, none⟩, 0, by rw [hdl, show m.length - 1 = 0 by omega], rest_at (k := 1) (.inr (by omega)) (by omega) _ (by omega) (by omega) _ hm, hbd, by rw [hdl]; simp; omega, howna, hBa, HS3.out.1 (by omega)⟩
              case measure => simp [slen]; omega
          · by_cases hc2 : k = c2
            · obtain rfl : k = c2 := hc2
              have hbl : ((m.drop 1).take (k - 1)).length = k - 1 := by rw [List.length_take, List.length_drop]; omega
              have hblk := part_at (b := b) (off := off) (c2 := k) (m := m) (k := 1) (n := k - 1) (pb := some ⟨b, off + 1, none⟩) (.inl rfl) (by omega) (k - 1) (by omega) (by omega)
              have HS2 := HS.out.2.2 h0 (by omega)
              obtain ⟨blk, hbk⟩ : ∃ blk, (m.drop 1).take (k - 1) = blk := ⟨_, rfl⟩
              rw [hbk] at hbl hblk HS2
              clear hbk
              by_cases hq : run blk < blk.length
              · have hn := Lib.hid (HS2.1 (by rw [hbl] at hq; omega))
                have CT := Lib.hid (contains_any (some ⟨b, off + 1, none⟩) (k - 1) (k - 1) blk wr hbl.symm (hblk _ (hm.below hB)) true (by simp [hq]))
                clear HS2
                go_wp2_with fail
                refine CT.out.mono ?_; rintro e w1 ⟨rfl, rfl⟩
                go_wp2_with fail
                go_ret2
                exact ⟨.slice none 0 0, by rw [hn.out]; exact rfl, (fun y hy => by rw [hn.out] at hy; cases hy), hB⟩
              · have CT := Lib.hid (contains_any (some ⟨b, off + 1, none⟩) (k - 1) (k - 1) blk wr hbl.symm (hblk _ (hm.below hB)) false (by simp [hq]))
                have HS3 := Lib.hid (HS2.2 (by rw [hbl] at hq; omega))
                have hdl : (m.drop k).length = m.length - k := List.length_drop
                have hbd := Lib.hid (byt_drop hbm.out k)
                clear HS2 hq
                by_cases h5 : k = 255
                ·
                  have t3 : ((k : Int) != 255) = false := by rw [bne_eq_false_iff_eq]; omega
                  have h5h := Lib.hid h5
                  clear h5
                  have t4 : decide (((m.length - k : Nat) : Int) > 0) = false := decide_eq_false (by omega)
                  go_wp2_with fail
                  refine CT.out.mono ?_; rintro e w1 ⟨rfl, rfl⟩
                  go_wp2_with (first
                            | (at_builtin
                               refine wp_app rfl (.tmp 27) (.tmp 28) rfl w.heap.size _ out (some ⟨b, off + 1, none⟩) (k - 1) (k - 1) blk rfl hown rfl hbl.symm (hblk _ (hm.below hB)) (by omega) hBs ?_
                               intro va wa howna hga hata
                               have hBa : Below w.heap.size w wa := below_app hB hown hga hBs
                               clear hata hga))
                  go_roundw
                  case rel => exact ⟨out ++ blk, m.drop k, some ⟨b, off, none⟩, 0, by rw [hdl, show m.length - k = 0 by omega], rest_at (k := k) (.inr (by omega)) (by omega) _ (by omega) (by omega) _ hm, hbd, by rw [hdl]; simp; omega, howna, hBa, HS3.out.1 (.inl h5h.out)⟩
                  case measure => simp [slen]; omega
                ·
                  have t3 : ((k : Int) != 255) = true := by rw [bne_iff_ne]; omega
                  have t4 : decide (((m.length - k : Nat) : Int) > 0) = false := decide_eq_false (by omega)
                  go_wp2_with fail
                  refine CT.out.mono ?_; rintro e w1 ⟨rfl, rfl⟩
                  go_wp2_with (first
                            | (at_builtin
                               refine wp_app rfl (.tmp 27) (.tmp 28) rfl w.heap.size _ out (some ⟨b, off + 1, none⟩) (k - 1) (k - 1) blk rfl hown rfl hbl.symm (hblk _ (hm.below hB)) (by omega) hBs ?_
                               intro va wa howna hga hata
                               have hBa : Below w.heap.size w wa := below_app hB hown hga hBs
                               clear hata hga))
                  go_roundw
                  case rel => exact ⟨out ++ blk, m.drop k, some ⟨b, off, none⟩, 0, by rw [hdl, show m.length - k = 0 by omega], rest_at (k := k) (.inr (by omega)) (by omega) _ (by omega) (by omega) _ hm, hbd, by rw [hdl]; simp; omega, howna, hBa, HS3.out.1 (by omega)⟩
                  case measure => simp [slen]; omega
            · have f3 : ¬ c2 = k := fun e => hc2 e.symm
              have hbl : ((m.drop 1).take (k - 1)).length = k - 1 := by rw [List.length_take, List.length_drop]; omega
              have hblk := part_at (b := b) (off := off) (c2 := c2) (m := m) (k := 1) (n := k - 1) (pb := some ⟨b, off + 1, none⟩) (.inl rfl) (by omega) (c2 - 1) (by omega) (by omega)
              have HS2 := HS.out.2.2 h0 (by omega)
              obtain ⟨blk, hbk⟩ : ∃ blk, (m.drop 1).take (k - 1) = blk := ⟨_, rfl⟩
              rw [hbk] at hbl hblk HS2
              clear hbk
              by_cases hq : run blk < blk.length
              · have hn := Lib.hid (HS2.1 (by rw [hbl] at hq; omega))
                have CT := Lib.hid (contains_any (some ⟨b, off + 1, none⟩) (c2 - 1) (k - 1) blk wr hbl.symm (hblk _ (hm.below hB)) true (by simp [hq]))
                clear HS2
                go_wp2_with fail
                refine CT.out.mono ?_; rintro e w1 ⟨rfl, rfl⟩
                go_wp2_with fail
                go_ret2
                exact ⟨.slice none 0 0, by rw [hn.out]; exact rfl, (fun y hy => by rw [hn.out] at hy; cases hy), hB⟩
              · have CT := Lib.hid (contains_any (some ⟨b, off + 1, none⟩) (c2 - 1) (k - 1) blk wr hbl.symm (hblk _ (hm.below hB)) false (by simp [hq]))
                have HS3 := Lib.hid (HS2.2 (by rw [hbl] at hq; omega))
                have hdl : (m.drop k).length = m.length - k := List.length_drop
                have hbd := Lib.hid (byt_drop hbm.out k)
                clear HS2 hq
                by_cases h5 : k = 255
                ·
                  have t3 : ((k : Int) != 255) = false := by rw [bne_eq_false_iff_eq]; omega
                  have h5h := Lib.hid h5
                  clear h5
                  go_wp2_with fail
                  refine CT.out.mono ?_; rintro e w1 ⟨rfl, rfl⟩
                  go_wp2_with (first
                            | (at_builtin
                               refine wp_app rfl (.tmp 27) (.tmp 28) rfl w.heap.size _ out (some ⟨b, off + 1, none⟩) (c2 - 1) (k - 1) blk rfl hown rfl hbl.symm (hblk _ (hm.below hB)) (by omega) hBs ?_
                               intro va wa howna hga hata
                               have hBa : Below w.heap.size w wa := below_app hB hown hga hBs
                               clear hata hga))
                  go_roundw
                  case rel => exact ⟨out ++ blk, m.drop k, some ⟨b, off + k, none⟩, c2 - k, by rw [hdl], rest_at (k := k) (.inl rfl) (by omega) _ (by omega) (by omega) _ hm, hbd, by rw [hdl]; simp; omega, howna, hBa, HS3.out.1 (.inl h5h.out)⟩
                  case measure => simp [slen]; omega
                by_cases h6 : k < m.length
                ·
                  have t3 : ((k : Int) != 255) = true := by rw [bne_iff_ne]; omega
                  have t4 : decide (((m.length - k : Nat) : Int) > 0) = true := decide_eq_true (by omega)
                  go_wp2_with fail
                  refine CT.out.mono ?_; rintro e w1 ⟨rfl, rfl⟩
                  go_wp2_with (first
                            | (at_builtin
                               refine wp_app rfl (.tmp 27) (.tmp 28) rfl w.heap.size _ out (some ⟨b, off + 1, none⟩) (c2 - 1) (k - 1) blk rfl hown rfl hbl.symm (hblk _ (hm.below hB)) (by omega) hBs ?_
                               intro va wa howna hga hata
                               have hBa : Below w.heap.size w wa := below_app hB hown hga hBs
                               clear hata hga)
                            | (at_builtin
                               refine wp_app rfl (.tmp 40) (.tmp 41) rfl w.heap.size va (out ++ blk) (some ⟨wa.heap.size, 0, none⟩) 1 1 [0] rfl (howna.alloc _) rfl rfl (Ints.one wa 0 wf_zero) (by simp; omega) (Nat.le_trans hBa.size (by simp)) ?_
                               intro vb wb hownb hgb hatb
                               have hBb : Below w.heap.size w wb := below_one hBa hBa.size _ howna hgb
                               clear hatb hgb))
                  go_roundw
                  case rel => exact ⟨out ++ blk ++ [0], m.drop k, some ⟨b, off + k, none⟩, c2 - k, by rw [hdl], rest_at (k := k) (.inl rfl) (by omega) _ (by omega) (by omega) _ hm, hbd, by rw [hdl]; simp; omega, hownb, hBb, HS3.out.2 (by omega) (by omega)⟩
                  case measure => simp [slen]; omega
                ·
                  have t3 : ((k : Int) != 255) = true := by rw [bne_iff_ne]; omega
                  have t4 : decide (((m.length - k : Nat) : Int) > 0) = false := decide_eq_false (by omega)
                  go_wp2_with fail
                  refine CT.out.mono ?_; rintro e w1 ⟨rfl, rfl⟩
                  go_wp2_with (first
                            | (at_builtin
                               refine wp_app rfl (.tmp 27) (.tmp 28) rfl w.heap.size _ out (some ⟨b, off + 1, none⟩) (c2 - 1) (k - 1) blk rfl hown rfl hbl.symm (hblk _ (hm.below hB)) (by omega) hBs ?_
                               intro va wa howna hga hata
                               have hBa : Below w.heap.size w wa := below_app hB hown hga hBs
                               clear hata hga))
                  go_roundw
                  case rel => exact ⟨out ++ blk, m.drop k, some ⟨b, off + k, none⟩, c2 - k, by rw [hdl], rest_at (k := k) (.inl rfl) (by omega) _ (by omega) (by omega) _ hm, hbd, by rw [hdl]; simp; omega, howna, hBa, HS3.out.1 (by omega)⟩
                  case measure => simp [slen]; omega

    · obtain rfl : m = [] := List.eq_nil_of_length_eq_zero (by omega)
      have hE : R = some out := by rw [HE.out, dec_nil]; simp
      have HE' := Lib.hid hE
      clear hE HE
      go_wp2_with fail
      go_ret2
      exact ⟨_, by rw [HE'.out]; exact rfl, (fun y hy => by rw [HE'.out] at hy; injection hy with hy; rw [← hy]; exact hown), hB⟩
end Go.Proofs.YtooicigocljomaaDoor.Cobs
