/- Package learn, the laws: the closed fact; heard, whatever it is told. No statement is proved here. -/
import Derived.Test.YtbgbmchpikdgoaaDoorLearnOps
import Derived.Test.YtbgbmchpikdgoaaDoorSame
import Derived.Test.YtbgbmchpikdgoaaDoorRowsAt
import Derived.StillTailTactics
namespace Go.Proofs.YtbgbmchpikdgoaaDoor.Learn
open Go.ChangeShapes Go.WideShapes Go.ChangeAt Go.RowKit Go.Proofs.YtbgbmchpikdgoaaDoor.Kit Go.Proofs.YtbgbmchpikdgoaaDoor.App Go.Proofs.YtbgbmchpikdgoaaDoor.Cells Go.Proofs.YtbgbmchpikdgoaaDoor.Err
set_option linter.unusedVariables false
set_option maxRecDepth 20000
set_option maxHeartbeats 1000000

theorem small_wf {l : List Int} (h : ∀ x ∈ l, 0 ≤ x ∧ x ≤ 65535) : ∀ x ∈ l, (Lit.int .i64 x).wf = true := fun x hx => by have := h x hx; exact wf_in (by omega)
theorem fact_any (w : World) : Calls Tryd.prog 5 #[] w fun e w' => e = .returned (.bool true) ∧ Below w.heap.size w w' := by
  have C0 := Lib.hid (new_any w (fun k => k < w.heap.size) (fun _ h => h))
  have C1 := Lib.hid (fun X s W (H : Sw X W s []) => frame_good X s [] 5 6 1 W H (by decide) (by decide) (by decide))
  have C2 := Lib.hid (fun X s W (H : Sw X W s (hear [] 5 1)) => frame_good X s (hear [] 5 1) 6 5 2 W H (by decide) (by decide) (by decide))
  have C3 := Lib.hid (fun X s W (H : Sw X W s (hear (hear [] 5 1) 6 2)) => frame_good X s (hear (hear [] 5 1) 6 2) 5 6 1 W H (by decide) (by decide) (by decide))
  rw [show out (hear [] 5 1) 6 1 = [0, 2, 3] by decide] at C1
  rw [show out (hear (hear [] 5 1) 6 2) 5 2 = [1] by decide] at C2
  rw [show out (hear (hear (hear [] 5 1) 6 2) 5 1) 6 1 = [2] by decide] at C3
  rw [er_0] at C1 C2 C3
  generalize hear [] 5 1 = m1 at C1 C2 C3
  generalize hear m1 6 2 = m2 at C2 C3
  generalize hear m2 5 1 = m3 at C3
  go_enter Tryd.func5, Tryd.ntmps5
  go_wp2_with fail
  refine C0.out.mono ?_; rintro e w1 ⟨s, rfl, hs1, hb1⟩
  have HS1 := Lib.hid hs1
  have HB1 := Lib.hid hb1
  clear hs1 hb1 C0
  go_wp2_with fail
  refine (C1.out _ _ _ HS1.out).mono ?_; rintro e w2 ⟨v1, rfl, ho1, hs2, hk2⟩
  have HS2 := Lib.hid hs2
  have HK2 := Lib.hid hk2
  have HB2 := Lib.hid (HB1.out.trans (hk2.below (fun k h => h)))
  obtain ⟨p1, c1, rfl, hi1, ha1⟩ := own_read ho1
  have HI1 := Lib.hid hi1
  have HA1 := Lib.hid (fun a e => (ha1 a e).2.2)
  clear hs2 hk2 ho1 hi1 ha1 C1 HS1 HB1
  go_wp2_with fail
  refine (C2.out _ _ _ HS2.out).mono ?_; rintro e w3 ⟨v2, rfl, ho2, hs3, hk3⟩
  have HS3 := Lib.hid hs3
  have HB3 := Lib.hid (HB2.out.trans (hk3.below (fun k h => .inl h)))
  have HI1' := Lib.hid (hk3.ints HI1.out (fun a e => .inr (HA1.out a e)))
  obtain ⟨p2, c2, rfl, hi2, ha2⟩ := own_read ho2
  have HI2 := Lib.hid hi2
  have HA2 := Lib.hid (fun a e => (ha2 a e).2.2)
  clear hs3 hk3 ho2 hi2 ha2 C2 HS2 HB2 HK2 HI1
  go_wp2_with fail
  refine (C3.out _ _ _ HS3.out).mono ?_; rintro e w4 ⟨v3, rfl, ho3, hs4, hk4⟩
  have HB4 := Lib.hid (HB3.out.trans (hk4.below (fun k h => .inl (.inl h))))
  have HI1 := Lib.hid (hk4.ints HI1'.out (fun a e => .inl (.inr (HA1.out a e))))
  have HI2' := Lib.hid (hk4.ints HI2.out (fun a e => .inr (HA2.out a e)))
  obtain ⟨p3, c3, rfl, hi3, ha3⟩ := own_read ho3
  have HI3 := Lib.hid hi3
  clear hs4 hk4 ho3 hi3 ha3 C3 HS3 HB3 HI1' HI2
  have L1 := Lib.hid (lit_ints w4 [0, 2, 3] (by decide) (by simp))
  have D1 := Lib.hid (balloc (brefl w4) (.cells #[.int .i64 0, .int .i64 2, .int .i64 3] 3))
  go_wp2_with fail
  refine (ints_any p1 _ c1 3 3 3 [0, 2, 3] [0, 2, 3] _ rfl rfl (HI1.out.below D1.out) L1.out true rfl).mono ?_
  rintro e w5 ⟨rfl, hb5⟩
  have D5 := Lib.hid (bcall D1.out hb5)
  clear hb5 D1 L1 HI1
  have L2 := Lib.hid (lit_ints w5 [1] (by decide) (by simp))
  have D6 := Lib.hid (balloc D5.out (.cells #[.int .i64 1] 3))
  go_wp2_with fail
  refine (ints_any p2 _ c2 1 1 1 [1] [1] _ rfl rfl (HI2'.out.below D6.out) L2.out true rfl).mono ?_
  rintro e w7 ⟨rfl, hb7⟩
  have D7 := Lib.hid (bcall D6.out hb7)
  clear hb7 D6 L2 HI2' D5
  have L3 := Lib.hid (lit_ints w7 [2] (by decide) (by simp))
  have D8 := Lib.hid (balloc D7.out (.cells #[.int .i64 2] 3))
  go_wp2_with fail
  refine (ints_any p3 _ c3 1 1 1 [2] [2] _ rfl rfl (HI3.out.below D8.out) L3.out true rfl).mono ?_
  rintro e w9 ⟨rfl, hb9⟩
  have D9 := Lib.hid (bcall HB4.out (bcall D8.out hb9))
  clear hb9 D8 L3 HI3 D7
  go_wp2_with fail
  go_ret
  exact ⟨rfl, D9.out⟩

theorem heard_any (p : Option Addr) (cap n : Nat) (ls : List (List Int)) (w : World) (hn : n = ls.length) (hi : RowsI w p cap ls) :
    Calls Tryd.prog 6 #[.slice p n cap] w fun e w' => ∃ s l, e = .returned (.pointer (some ⟨s, 0, none⟩)) ∧ Sw (fun k => k < w.heap.size) w' s l ∧ Below w.heap.size w w' := by
  have hlen := hi.len_le
  rw [← hn] at hlen
  have C0 := Lib.hid (new_any w (fun k => k < w.heap.size) (fun _ h => h))
  have HR := Lib.hid (Drr.rows_both hi)
  have HN := Lib.hid hn
  clear hi hn
  go_enter Tryd.func6, Tryd.ntmps6
  go_wp2_with fail
  refine C0.out.mono ?_; rintro e w1 ⟨s, rfl, hs1, hb1⟩
  have HS1 := Lib.hid hs1
  have HB1 := Lib.hid hb1
  clear hs1 hb1 C0
  go_wp2_with fail
  go_loopw [4] (fun iv wr => ∃ (k : Nat) (l : List E), k ≤ n ∧ k ≤ 60 ∧ iv = .int .i64 (k : Int) ∧ Hid (Sw (fun k => k < w.heap.size) wr s l) ∧ Hid (Below w.heap.size w wr)) (fun i _ => 60 - (intOf i).toNat)
  case atStart => exact ⟨0, [], Nat.zero_le _, Nat.zero_le _, rfl, HS1, HB1⟩
  case round =>
    obtain ⟨k, l, hkn, hk60, rfl, HS, HB⟩ := hrel
    clear HS1 HB1
    by_cases h1 : k < n
    · have u1 : decide ((k : Int) < (n : Int)) = true := decide_eq_true (by omega)
      by_cases h2 : k < 60
      · have u2 : decide ((k : Int) < 60) = true := decide_eq_true (by omega)
        obtain ⟨b, off, rfl, hr⟩ := HR.out (by rw [← HN.out]; omega)
        obtain ⟨q, c, hlen2, hc⟩ := hr k (by rw [← HN.out]; exact h1)
        clear hr
        generalize Drr.row ls k = x at hlen2 hc
        have HC := Lib.hid hc
        have hq := (HC.out wr HB.out).1
        have hI := Lib.hid (hc w (brefl w)).2
        clear hc
        by_cases h3 : x.length = 3
        · obtain ⟨b2, o2, rfl, hcs⟩ := Drr.ints_both hI.out (by omega)
          have g0 : wr.cell? ⟨b2, o2, none⟩ = some (.int .i64 (x[0]?.getD 0)) := hcs wr HB.out 0 (by omega)
          have g1 : wr.cell? ⟨b2, o2 + 1, none⟩ = some (.int .i64 (x[1]?.getD 0)) := hcs wr HB.out 1 (by omega)
          have g2 : wr.cell? ⟨b2, o2 + 2, none⟩ = some (.int .i64 (x[2]?.getD 0)) := hcs wr HB.out 2 (by omega)
          generalize x[0]?.getD 0 = x0 at g0
          generalize x[1]?.getD 0 = x1 at g1
          generalize x[2]?.getD 0 = x2 at g2
          have HQ2 := Lib.hid (fun W hW => (HC.out W hW).1)
          rw [h3] at hq HQ2
          clear hcs hI HC h3 hlen2
          have C := Lib.hid (frame_any _ s l x0 x1 x2 wr.drew (show Sw (fun k => k < w.heap.size) wr.drew s l from HS.out.below ⟨rfl, rfl, rfl, Nat.le_refl _, fun _ _ => rfl⟩))
          generalize code x0 x1 x2 = ce at C
          go_wp2_with fail
          go_still_tail 19, (by kernel_rfl)
          change wpList _ _ _ _ _ wr.drew
          go_wp2_with fail
          refine C.out.mono ?_; rintro e w2 ⟨v, rfl, ho, hs, hk⟩
          have HS2 := Lib.hid (hs.mono (Y := fun k => k < w.heap.size) (fun k h => .inl h))
          have hkb := hk.below (B := w.heap.size) (fun k h => h)
          have HB2 := Lib.hid (HB.out.trans (show Below w.heap.size wr w2 from ⟨hkb.os, hkb.tape, hkb.output, hkb.size, hkb.block⟩))
          clear hkb
          have hq2 := HQ2.out w2 HB2.out
          clear C ho hs hk HS HB HQ2 g0 g1 g2 hq
          go_wp2_with fail
          go_roundw
          case rel => exact ⟨k + 1, _, by omega, by omega, by first | rfl | go_num, HS2, HB2⟩
          case measure => simp [intOf]; omega
        · by_cases h4 : x.length = 1
          · obtain ⟨b2, o2, rfl, hcs⟩ := Drr.ints_both hI.out (by omega)
            have g0 : wr.cell? ⟨b2, o2, none⟩ = some (.int .i64 (x[0]?.getD 0)) := hcs wr HB.out 0 (by omega)
            generalize x[0]?.getD 0 = x0 at g0
            rw [h4] at hq
            clear hcs hI HC h3 h4 hlen2
            have C := Lib.hid (down_any _ s l x0 wr HS.out)
            generalize codeP x0 = ce at C
            generalize outD l x0 = on at C
            go_wp2_with fail
            refine C.out.mono ?_; rintro e w2 ⟨rfl, hs, hk⟩
            have HS2 := Lib.hid hs
            have HB2 := Lib.hid (HB.out.trans (hk.below (fun k h => h)))
            clear C hs hk HS HB g0 hq
            go_wp2_with fail
            go_roundw
            case rel => exact ⟨k + 1, _, by omega, by omega, by first | rfl | go_num, HS2, HB2⟩
            case measure => simp [intOf]; omega
          · obtain ⟨m, hm⟩ : ∃ m, x.length = m := ⟨_, rfl⟩
            rw [hm] at hq hlen2 h3 h4
            have u3 : ((m : Int) == 3) = false := by rw [beq_eq_false_iff_ne]; omega
            have u4 : ((m : Int) == 1) = false := by rw [beq_eq_false_iff_ne]; omega
            clear hm h3 h4 HC hI
            go_wp2_with fail
            go_roundw
            case rel => exact ⟨k + 1, l, by omega, by omega, by first | rfl | go_num, HS, HB⟩
            case measure => simp [intOf]; omega
      · have u2 : decide ((k : Int) < 60) = false := decide_eq_false (by omega)
        go_wp2_with fail
        go_ret
        exact ⟨s, l, rfl, HS.out, HB.out⟩
    · have u1 : decide ((k : Int) < (n : Int)) = false := decide_eq_false (by omega)
      go_wp2_with fail
      go_ret
      exact ⟨s, l, rfl, HS.out, HB.out⟩
end Go.Proofs.YtbgbmchpikdgoaaDoor.Learn
