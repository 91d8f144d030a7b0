/- VectorReach: after so many rounds one knows of just those that are no more links away: for every input. No condition. -/
import Derived.Test.YthggfkdpggfkbaaVecFact
import Derived.Test.YthggfkdpggfkbaaTabAt
import Derived.Test.YthggfkdpggfkbaaIn3
import Derived.BigQuiet
import Derived.Deep.RegionHeld3
namespace Go.Proofs.Ythggfkdpggfkbaa.VectorReachL
open Go.ChangeShapes Go.WideShapes Go.ChangeAt Go.RowKit Go.Proofs.Ythggfkdpggfkbaa.Kit Go.Proofs.Ythggfkdpggfkbaa.App Go.Proofs.Ythggfkdpggfkbaa.Cells Go.Proofs.Ythggfkdpggfkbaa.Err Go.Proofs.Ythggfkdpggfkbaa.Vector
set_option linter.unusedVariables false
set_option maxRecDepth 20000
set_option maxHeartbeats 2000000
abbrev Law (n : Int) (p : Option Addr) (m cap : Nat) (r : Int) (w : World) : Prop := Calls Try.prog 5 #[.int .i64 n, .slice p m cap, .int .i64 r] w fun e w' => e = .returned (.bool true) ∧ Below w.heap.size w w'
theorem law_bad (n : Int) (p : Option Addr) (m cap : Nat) (ls : List Lk) (r : Int) (w : World) (hm : m = ls.length) (hi : CI layL w p cap ls) (c : Int) (hc : code2 n ls r = c) (h0 : c ≠ 0) : Law n p m cap r w := by
  have hlm := hi.len_le
  rw [← hm] at hlm
  have RA := Lib.hid (fun W (hW : Below w.heap.size w W) => rounds_bad n r p cap m ls W hm (hi.below hW) c hc h0)
  rw [er_ne h0] at RA
  clear hm hi hc h0
  have FA := Lib.hid (fact_any w)
  unfold Law
  go_enter Try.func5, Try.ntmps5
  go_wp2_with fail
  refine FA.out.mono ?_; rintro e w1 ⟨rfl, hb1⟩
  clear FA
  go_wp2_with fail
  refine (RA.out w1 hb1).mono ?_; rintro e w2 ⟨rfl, hb2⟩
  have HB2 := Lib.hid (bcall hb1 hb2)
  clear RA hb1 hb2
  go_wp2_with fail
  go_ret
  exact ⟨by first | rfl | simp, HB2.out⟩
theorem take_evn {ls : List Lk} {k : Nat} (h : k < ls.length) : (evn ls).take (k + 1) = (evn ls).take k ++ [⟨(lk ls k).a, (lk ls k).b, 1⟩] := by
  rw [List.take_add_one]
  unfold evn
  rw [List.getElem?_map, lk_get h]
  rfl
theorem law_good (n : Nat) (p : Option Addr) (m cap : Nat) (ls : List Lk) (r : Nat) (w : World) (hm : m = ls.length) (hi : CI layL w p cap ls) (g : Vector.Good n ls) (hr : r ≤ 20) : Law n p m cap r w := by
  have hlm := hi.len_le
  rw [← hm] at hlm
  have RA := Lib.hid (fun W (hW : Below w.heap.size w W) => rounds_good n r p cap m ls W g hm (hi.below hW) hr)
  have hel : m = (evn ls).length := by rw [hm, evn, List.length_map]
  have RB := Lib.hid (fun q c W (hW : CI layL W q c (evn ls)) => rounds_good n 8 q c m (evn ls) W (evn_good g) hel hW (by decide))
  rw [show ((8 : Nat) : Int) = 8 from rfl] at RB
  have hn1 := g.lo
  have hn8 := g.up
  have hm32 : m ≤ 32 := by rw [hm]; exact g.len
  have HRE := Lib.hid (fun i j (hj : j < n) => reach (i := i) g hr hj)
  have u0 : ((n : Int) != (n : Int)) = false := by simp
  have HM := Lib.hid hm
  have HEL := Lib.hid hel
  have HI := Lib.hid hi
  clear hm hel hi g
  have FA := Lib.hid (fact_any w)
  unfold Law
  go_enter Try.func5, Try.ntmps5
  go_wp2_with fail
  refine FA.out.mono ?_; rintro e w1 ⟨rfl, hb1⟩
  clear FA
  go_wp2_with fail
  refine (RA.out w1 hb1).mono ?_; rintro e w5 ⟨ba, rfl, hra, hb4⟩
  have HB5 := Lib.hid (bcall hb1 hb4)
  have HRA := Lib.hid hra
  clear RA hra hb1 hb4
  have HO0 : Hid (OC layL 36 w5 w5.heap.size (.slice none 0 0) ((evn ls).take 0)) := Lib.hid (OC.nil _ _ _ _)
  go_wp2_with fail
  go_loopw [10, 11] (fun ev iv wr => ∃ i : Nat, i ≤ m ∧ iv = .int .i64 i ∧ Hid (OC layL 36 wr w5.heap.size ev ((evn ls).take i)) ∧ Hid (Below w5.heap.size w5 wr)) (fun _ i _ => m - (intOf i).toNat)
  case atStart => exact ⟨0, Nat.zero_le _, rfl, HO0, Lib.hid (brefl _)⟩
  case round =>
    obtain ⟨i, him, rfl, HO, HQ⟩ := hrel
    clear HO0
    by_cases hlt : i < m
    · have v0 : decide ((i : Int) < (m : Int)) = true := decide_eq_true (by omega)
      have v0' : (i : Int) < (m : Int) := by omega
      have hil : i < ls.length := by rw [← HM.out]; exact hlt
      obtain ⟨bl, off, rfl, hbl, hat⟩ := links_at HI.out (by omega)
      obtain ⟨x0, x1, _⟩ := hat wr (bcall HB5.out HQ.out) i hil
      obtain ⟨q00, q11, _⟩ := hat w5 HB5.out i hil
      have hb5 : bl < w5.heap.size := Nat.lt_of_lt_of_le hbl HB5.out.size
      have hbw : bl < wr.heap.size := Nat.lt_of_lt_of_le hb5 HQ.out.size
      have HTK := Lib.hid (take_evn hil)
      obtain ⟨xa, hxa⟩ : ∃ xa, (lk ls i).a = xa := ⟨_, rfl⟩
      obtain ⟨xb, hxb⟩ : ∃ xb, (lk ls i).b = xb := ⟨_, rfl⟩
      rw [hxa, hxb] at HTK
      rw [hxa] at x0 q00
      rw [hxb] at x1 q11
      have HLN := Lib.hid (show ((evn ls).take i).length = i from by rw [List.length_take, ← HEL.out]; omega)
      have hsz := HQ.out.size
      clear hat hxa hxb hil hbl
      obtain ⟨pe, ce, hev, _⟩ := HO.out.form
      rw [HLN.out] at hev
      subst hev
      go_wp2_with fail
      have q0 : wr.drew.cell? ⟨bl, off + i * 3, none⟩ = some (.int .i64 xa) := x0
      have q1 : wr.drew.cell? ⟨bl, off + i * 3 + 1, none⟩ = some (.int .i64 xb) := x1
      have q2 : ∀ o, (wr.drew.alloc o).cell? ⟨bl, off + i * 3, none⟩ = some (.int .i64 xa) := fun o => (World.cell?_alloc_lt wr.drew _ _ hbw).trans q0
      have q3 : ∀ o, (wr.drew.alloc o).cell? ⟨bl, off + i * 3 + 1, none⟩ = some (.int .i64 xb) := fun o => (World.cell?_alloc_lt wr.drew _ _ hbw).trans q1
      go_region_held3 (fun W' => W'.cell? ⟨bl, off + i * 3, none⟩ = some (.int .i64 xa) ∧ W'.cell? ⟨bl, off + i * 3 + 1, none⟩ = some (.int .i64 xb))
        (first
          | exact ⟨q0, q1⟩
          | exact ⟨q2 _, q3 _⟩
          | exact ⟨q4, q5⟩
          | go_keep)
        (first
          | (refine step_appC tyL rfl (.tmp 36) (.tmp 48) rfl w5.heap.size _ ((evn ls).take i) (some ⟨wr.heap.size, 0, none⟩) 1 1 [⟨xa, xb, 1⟩] rfl (HO.out.drew.alloc _) rfl rfl (CI.one layL wr.drew ⟨xa, xb, 1⟩ _) (by rw [HLN.out, List.length_singleton]; omega) (Nat.le_trans hsz (by simp)) ?_
             intro v8 w8 hown8 hg8 hat8
             have HO8 := Lib.hid (show OC layL 36 w8 w5.heap.size v8 ((evn ls).take (i + 1)) by rw [HTK.out]; exact hown8)
             have HB8 := Lib.hid (show Below w5.heap.size w5 w8 from below_oneC (w := wr.drew) (bdrewN HQ.out 1) hsz _ HO.out.drew hg8)
             have q4 := (HB8.out.cell (p := ⟨bl, off + i * 3, none⟩) hb5).trans q00
             have q5 := (HB8.out.cell (p := ⟨bl, off + i * 3 + 1, none⟩) hb5).trans q11
             clear hown8 hg8 hat8))
      go_wp2_with fail
      go_roundw
      case rel => exact ⟨i + 1, by omega, by first | rfl | go_num, HO8, HB8⟩
      case measure => simp [intOf]; omega
    · obtain rfl : i = m := by omega
      have v0 : decide ((i : Int) < (i : Int)) = false := decide_eq_false (by omega)
      obtain ⟨pe, ce, hev, hci⟩ := HO.out.form
      rw [List.take_of_length_le (by rw [← HEL.out]; exact Nat.le_refl _)] at hev hci
      rw [← HEL.out] at hev
      have C := Lib.hid (RB.out pe ce wr hci)
      subst hev
      clear hci RB HO
      go_wp2_with fail
      refine C.out.mono ?_; rintro e w6 ⟨bb, rfl, hrb, hb6⟩
      have HB6 := Lib.hid (bcall HB5.out (bcall HQ.out hb6))
      obtain ⟨A⟩ := tab_at (HRA.out.below (bcall HQ.out hb6)) hn1
      obtain ⟨B⟩ := tab_at hrb hn1
      clear C hrb hb6 HRA HQ HB5
      obtain ⟨ab, ao, ac, a2, ao2, hap, ahd, acl⟩ := A
      obtain ⟨bb2, bo, bc, b2, bo2, hbp, bhd, bcl⟩ := B
      injection hap with hap
      injection hap with e1 e2
      subst e1; subst e2
      injection hbp with hbp
      injection hbp with e1 e2
      subst e1; subst e2
      have AH := Lib.hid ahd
      have AC := Lib.hid acl
      have BH := Lib.hid bhd
      have BC := Lib.hid bcl
      clear ahd acl bhd bcl v0
      go_wp2_with fail
      go_loopw [13] (fun iv wr => ∃ x : Nat, x ≤ n ∧ iv = .int .i64 x ∧ Hid (Below w6.heap.size w6 wr)) (fun k _ => n - (intOf k).toNat)
      case atStart => exact ⟨0, Nat.zero_le _, rfl, Lib.hid (brefl _)⟩
      case round =>
        obtain ⟨x, hx, rfl, HQ⟩ := hrel
        by_cases hxl : x < n
        · have v0 : decide ((x : Int) < (n : Int)) = true := decide_eq_true (by omega)
          have v0' : (x : Int) < (n : Int) := by omega
          have h1 := AH.out wr HQ.out x hxl
          have h2 := BH.out wr HQ.out x hxl
          rw [Nat.zero_add] at h1 h2
          go_wp2_with fail
          clear h1 h2
          obtain ⟨w7, hw7⟩ : ∃ z, z = wr := ⟨wr, rfl⟩
          rw [← hw7] at HQ ⊢
          clear hw7 wr
          go_loopw [14] (fun jv wr => ∃ y : Nat, y ≤ n ∧ jv = .int .i64 y ∧ Hid (Below w6.heap.size w6 wr)) (fun k _ => n - (intOf k).toNat)
          case atStart => exact ⟨0, Nat.zero_le _, rfl, HQ⟩
          case round =>
            obtain ⟨y, hy, rfl, HQ2⟩ := hrel
            clear HQ
            by_cases hyl : y < n
            · have v1 : decide ((y : Int) < (n : Int)) = true := decide_eq_true (by omega)
              have v1' : (y : Int) < (n : Int) := by omega
              have h1 := AH.out wr HQ2.out x hxl
              have h2 := BH.out wr HQ2.out x hxl
              rw [Nat.zero_add] at h1 h2
              have c1 := AC.out wr HQ2.out x y hxl hyl
              have c2 := BC.out wr HQ2.out x y hxl hyl
              have hre := HRE.out x y hyl
              have HW := Lib.hid (fun q => bdrewN HQ2.out q)
              generalize D ls r x y = d1 at c1 hre
              generalize D (evn ls) 8 x y = d2 at c2 hre
              have hd : (decide (d1 < 1000) = true ∧ decide (d2 ≤ (r : Int)) = true) ∨ (decide (d1 < 1000) = false ∧ decide (d2 ≤ (r : Int)) = false) := by
                by_cases e : d1 < 1000
                · exact .inl ⟨decide_eq_true e, decide_eq_true (hre.1 e)⟩
                · exact .inr ⟨decide_eq_false e, decide_eq_false fun h => e (hre.2 h)⟩
              clear hre
              rcases hd with ⟨hd1, hd2⟩ | ⟨hd1, hd2⟩
              all_goals
                go_wp2_with fail
                go_quiet (fail)
                go_wp2_with fail
                go_roundw
                case rel => exact ⟨y + 1, by omega, by first | rfl | go_num, Lib.hid (HW.out _)⟩
                case measure => simp [intOf]; omega
            · obtain rfl : y = n := by omega
              have v1 : decide ((y : Int) < (y : Int)) = false := decide_eq_false (by omega)
              go_wp2_with fail
              go_roundw
              case rel => exact ⟨x + 1, by omega, by first | rfl | go_num, HQ2⟩
              case measure => simp [intOf]; omega
        · obtain rfl : x = n := by omega
          have v0 : decide ((x : Int) < (x : Int)) = false := decide_eq_false (by omega)
          have HBF := Lib.hid (bcall HB6.out HQ.out)
          go_wp2_with fail
          go_ret
          exact ⟨by first | rfl | simp, HBF.out⟩
theorem law_any (n : Int) (p : Option Addr) (m cap : Nat) (ls : List Lk) (r : Int) (w : World) (hm : m = ls.length) (hi : CI layL w p cap ls) : Law n p m cap r w := by
  obtain ⟨c, hc⟩ : ∃ c, code2 n ls r = c := ⟨_, rfl⟩
  by_cases h0 : c = 0
  · rw [h0] at hc
    have h2 := code2_zero.1 hc
    obtain ⟨k, rfl, g⟩ := good_of h2.1
    obtain ⟨j, rfl⟩ : ∃ j : Nat, r = (j : Int) := ⟨r.toNat, by omega⟩
    exact law_good k p m cap ls j w hm hi g (by omega)
  · exact law_bad n p m cap ls r w hm hi c hc h0

theorem reads : Try.f5.params.toList.all (fun t => Try.prog.readableRec t && decide (t < Try.prog.types.size)) = true := by kernel_rfl

theorem contract (H : Type) (enc : TypeId × Value → H) (W : World) (base : Nat) (args : Array Value) (ds gs : List (DataW H)) (before : List MemPlace)
    (hval : ∀ (j : Nat) t v, Try.f5.params[j]? = some t → args[j]? = some v → Value.okWide Try.prog W .any base t v)
    (hW : DataW.Whole enc Try.prog Try.f5.params.toList Rows.vectorReachSpec.vars false W args.toList ds gs before) :
    Calls Try.prog 5 args W fun e W' => ∃ v, e = .returned v ∧ Rows.vectorReachSpec.post enc Try.prog Try.f5 false true false false W args v W' := by
  have hW' := hW
  obtain ⟨p, q, hA0, hV, rfl, hfz, hnd⟩ := hW
  have hA : DataW.TrodAll enc Try.prog W 0 (fun _ => true) true Try.f5.params.toList args.toList ds p := hA0
  have hlt := hA.lt
  rw [Try.params5] at hA hval
  obtain ⟨v0, vs0, d0, ds0, p0, q0, hargs, rfl, rfl, h0, r0⟩ := trodAll_cons hA
  obtain ⟨v1, vs1, d1, ds1, p1, q1, hvs1, rfl, rfl, h1, r1⟩ := trodAll_cons r0
  obtain ⟨v2, vs2, d2, ds2, p2, q2, hvs2, rfl, rfl, h2, r2⟩ := trodAll_cons r1
  obtain ⟨hvsn, rfl, rfl⟩ := trodAll_nil r2
  simp only [hvsn, hvs2, hvs1] at hargs
  obtain rfl : args = #[v0, v1, v2] := by cases args; simp_all
  obtain ⟨rfl, rfl⟩ := trodVars_none hV
  clear hA0
  obtain ⟨a0, rfl, rfl, rfl, w0⟩ := open_int Try.underlying3 (hval 0 3 v0 rfl rfl) h0
  have b0 := bounds_int w0
  obtain ⟨p1a, cap1, l1, rfl, i1, e1⟩ := Go.Proofs.Ythggfkdpggfkbaa.Vector.open_links (hval 1 22 v1 rfl rfl) h1 (fun x hx => hlt x (by simp [hx]))
  obtain ⟨a2, rfl, rfl, rfl, w2⟩ := open_int Try.underlying3 (hval 2 3 v2 rfl rfl) h2
  have b2 := bounds_int w2
  exact law_post 4 laid reads rfl Try.underlying4 rfl hW' ⟨rfl, rfl, rfl⟩ (law_any _ _ _ _ _ _ W rfl i1)

set_option maxRecDepth 100000 in
theorem lifted (os : Os) (started : os.Started) (H : Type) (enc : TypeId × Value → H) :
    ReturnsInHanded {} Try.checked os 5 .any (Rows.vectorReachSpec.pre6 enc Try.prog Try.f5 Rows.vectorReachRow.domain false) (Rows.vectorReachSpec.post enc Try.prog Try.f5 false true false false) := by
  refine returnsInHanded_of_change (C := Try.checked) own started (by kernel_rfl) Try.func5
    (ChangeSpec.witness6 (enc := enc) (C := Try.checked) false ⟨#[], #[.int .i64 0, .slice none 0 0, .int .i64 0], []⟩ 8 (by kernel_rfl) (by kernel_rfl) (by kernel_rfl) (by kernel_rfl)) ?_
  intro W base args ds gs before hval hW _ _
  exact contract H enc W base args ds gs before hval hW

theorem proved : Rows.VectorReachSaid :=
  OpenClaim.holds_of_wide 5 Try.f5 rfl rfl rfl rfl rfl rfl rfl ⟨rfl, rfl, rfl, rfl, rfl⟩ rfl rfl rfl rfl rfl (by kernel_rfl) Try.func5 (by kernel_rfl)
    (of_decide_eq_true (by kernel_rfl)) (by unfold Func.isWrapper; first | (rw [if_pos (by decide +kernel)]; kernel_rfl) | (rw [if_neg (by decide +kernel)]; exact ⟨rfl, rfl⟩))
    (fun os started H enc _ => lifted os started H enc)
end Go.Proofs.Ythggfkdpggfkbaa.VectorReachL
