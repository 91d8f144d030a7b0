/- MaxminRoom: no link is overloaded, and every flow crosses a saturated link: for every input. No condition. -/
import Derived.Test.YtggnpecmldnmnaaMaxFact
import Derived.Test.YtggnpecmldnmnaaMaxLeft
import Derived.BigQuiet
import Derived.Test.YtggnpecmldnmnaaBehind
import Derived.BigRegion
namespace Go.Proofs.Ytggnpecmldnmnaa.MaxminRoomL
open Go.ChangeShapes Go.WideShapes Go.ChangeAt Go.RowKit Go.Proofs.Ytggnpecmldnmnaa.Kit Go.Proofs.Ytggnpecmldnmnaa.App Go.Proofs.Ytggnpecmldnmnaa.Err Go.Proofs.Ytggnpecmldnmnaa.Drr Go.Proofs.Ytggnpecmldnmnaa.Maxmin
set_option linter.unusedVariables false
set_option maxRecDepth 20000
set_option maxHeartbeats 2000000
abbrev Law (p1 : Option Addr) (n1 cap1 : Nat) (p : Option Addr) (n cap : Nat) (w : World) : Prop := Calls Try.prog 3 #[.slice p1 n1 cap1, .slice p n cap] w fun e w' => e = .returned (.bool true) ∧ Below w.heap.size w w'
theorem law_bad (p1 : Option Addr) (n1 cap1 : Nat) (room : List Int) (p : Option Addr) (n cap : Nat) (ws : List (List Int)) (w : World) (hn1 : n1 = room.length) (hi1 : Ints w p1 cap1 room) (hn : n = ws.length) (hi : RowsI w p cap ws) (c : Int) (hc : code room ws = c) (h0 : c ≠ 0) : Law p1 n1 cap1 p n cap w := by
  have RU := Lib.hid (fun W (hW : Below w.heap.size w W) => share_bad p1 cap1 n1 room p cap n ws W hn1 (hi1.below hW) hn (hi.below hW) c hc h0)
  rw [er_ne h0] at RU
  clear hn1 hi1 hn hi hc h0
  have FA := Lib.hid (fact_any w)
  unfold Law
  go_enter Try.func3, Try.ntmps3
  go_wp2_with fail
  refine FA.out.mono ?_; rintro e w1 ⟨rfl, hb1⟩
  clear FA
  go_wp2_with fail
  refine (RU.out w1 hb1).mono ?_; rintro e w2 ⟨rfl, hb2⟩
  have HB2 := Lib.hid (bcall hb1 hb2)
  clear RU hb1 hb2
  go_wp2_with fail
  go_ret
  exact ⟨by first | rfl | simp, HB2.out⟩
theorem law_good (p1 : Option Addr) (n1 cap1 : Nat) (room : List Int) (p : Option Addr) (n cap : Nat) (ws : List (List Int)) (w : World) (hn1 : n1 = room.length) (hi1 : Ints w p1 cap1 room) (hn : n = ws.length) (hi : RowsI w p cap ws) (hz : code room ws = 0) : Law p1 n1 cap1 p n cap w := by
  have hg := code_zero.1 hz
  obtain ⟨N, r, hr⟩ := runs_exist hg
  have RU := Lib.hid (fun W (hW : Below w.heap.size w W) => share_good p1 cap1 n1 room p cap n ws W hn1 (hi1.below hW) hn (hi.below hW) hg N r hr)
  obtain ⟨he1, he2, he3⟩ := ends hg hr
  have hn5 : n ≤ 5 := by rw [hn]; exact hg.flows
  have hl6 : n1 ≤ 6 := by rw [hn1]; exact hg.links
  have BE := Lib.hid (fun W (hW : Below w.heap.size w W) => behind_own p1 cap1 n1 room 0 W hn1 (hi1.below hW) (by have := hg.links; omega) (by decide))
  have HE1 := Lib.hid he1
  have HE2 := Lib.hid he2
  have HE3 := Lib.hid he3
  have HG := Lib.hid hg
  have HN1 := Lib.hid hn1
  have HN := Lib.hid hn
  have HI := Lib.hid hi
  have hlp := hi.len_le
  rw [← hn] at hlp
  clear hn1 hi1 hn hi hz hr he1 he2 he3 hg
  have FA := Lib.hid (fact_any w)
  unfold Law
  go_enter Try.func3, Try.ntmps3
  go_wp2_with fail
  refine FA.out.mono ?_; rintro e w1 ⟨rfl, hb1⟩
  clear FA
  go_wp2_with fail
  refine (RU.out w1 hb1).mono ?_; rintro e w2 ⟨q, rfl, ho, hb2⟩
  have HB2 := Lib.hid (bcall hb1 hb2)
  have HO := Lib.hid ho
  have u0 : ((n : Int) != (n : Int)) = false := by simp
  clear RU hb1 hb2 ho
  go_wp2_with fail
  refine (BE.out w2 HB2.out).mono ?_; rintro e w3 ⟨g, c, rfl, hog, hg2, hb3⟩
  have HL0 : Hid (Lft room ws n (n1 + 1) (am n r) w2 w3 g c 0 0) := Lib.hid ⟨hb3, by
    rw [cp_behind, HN1.out] at hog
    rw [HN1.out, lt_congr (g := cp room) fun y _ => by rw [tak_zero, Int.sub_zero]]
    exact hog⟩
  clear BE hog hb3
  have HBW := Lib.hid (fun W (hW : Below w2.heap.size w2 W) => bcall HB2.out hW)
  obtain ⟨M, hM⟩ : ∃ M, n1 + 1 = M := ⟨_, rfl⟩
  rw [hM] at HL0 ⊢
  go_wp2_with fail
  go_loopw [9] (fun iv wr => ∃ i : Nat, i ≤ n ∧ iv = .int .i64 i ∧ Hid (Lft room ws n M (am n r) w2 wr g c i 0)) (fun i _ => n - (intOf i).toNat)
  case atStart => exact ⟨0, Nat.zero_le _, rfl, HL0⟩
  case round =>
    clear HL0
    obtain ⟨i, hin, rfl, HL⟩ := hrel
    by_cases hlt : i < n
    · have u1 : decide ((i : Int) < (n : Int)) = true := decide_eq_true (by omega)
      obtain ⟨gq, cq, hq, _, _, _, _⟩ := own_pos HO.out (by rw [lt_len]; omega)
      rw [lt_len] at hq
      injection hq with hq e2 e3
      clear e2 e3
      subst hq
      have hil : i < ws.length := by rw [← HN.out]; exact hlt
      obtain ⟨hr0, hr1⟩ := HE1.out i hil
      have HOC : Hid (∀ W, Below w2.heap.size w2 W → W.cell? ⟨gq, i, none⟩ = some (.int .i64 (r i))) := Lib.hid (fun W hW => by
        have := own_cell (HO.out.below hW) i (by rw [lt_len]; exact hlt)
        rwa [lt_get _ _ _ hlt] at this)
      have hlc := HOC.out wr HL.out.bel
      have u2 : decide (r i < 0) = false := decide_eq_false (by omega)
      obtain ⟨b, off, rfl, hrow⟩ := rows_both HI.out (by omega)
      obtain ⟨q1, c1, hlz, hrw⟩ := hrow i hil
      obtain ⟨z, hz⟩ : ∃ z, (row ws i).length = z := ⟨_, rfl⟩
      rw [hz] at hlz
      have HRW := Lib.hid (fun W hW => hrw W (HBW.out W hW))
      have HIL := Lib.hid hil
      have HZ := Lib.hid hz
      have HRI := Lib.hid (am_at (r := r) hlt)
      have hin' : (i : Int) < (n : Int) := by omega
      generalize hri : r i = ri at hr0 hr1 HOC hlc u2 HRI
      clear hrow hrw hil hz hri
      go_wp2_with fail
      go_loopw [10] (fun kv wr => ∃ k : Nat, k ≤ z ∧ kv = .int .i64 k ∧ Hid (Lft room ws n M (am n r) w2 wr g c i k)) (fun k _ => z - (intOf k).toNat)
      case atStart => exact ⟨0, Nat.zero_le _, rfl, HL⟩
      case round =>
        clear HL hlc
        obtain ⟨k, hk, rfl, HK⟩ := hrel
        obtain ⟨hck, hik⟩ := HRW.out wr HK.out.bel
        rw [HZ.out] at hck
        by_cases hkz : k < z
        · have v1 : decide ((k : Int) < (z : Int)) = true := decide_eq_true (by omega)
          have hkl : k < (row ws i).length := by rw [HZ.out]; exact hkz
          obtain ⟨x, hx, hx6, hxL⟩ := link_at HG.out HIL.out hkl
          obtain ⟨b3, off3, rfl, _, hcc⟩ := hik.2.2.2 (by omega)
          have hck3 := hcc k hkl
          rw [hx] at hck3
          have hxM : x < M := by have := HN1.out; omega
          have hxM' : (x : Int) < (M : Int) := by omega
          have hcl := HK.out.cell hxM
          have hfl := HK.out.fz x
          have hlc := HOC.out wr HK.out.bel
          have ht := tak_in HG.out.once (am_in (B := 1000) (by omega) (fun i hi => HE1.out i (by rw [← HN.out]; exact hi))) hn5 i k (x : Int)
          have hc := cp_in HG.out hxL
          have HV := Lib.hid (HK.out.step hlt hkl hx (cp room (x : Int) - tak ws n (am n r) i k (x : Int) - ri) (by rw [HRI.out]) (by omega))
          obtain ⟨s, hs0⟩ : ∃ s, cp room (x : Int) - tak ws n (am n r) i k (x : Int) = s := ⟨_, rfl⟩
          have hs : -10000 ≤ s ∧ s ≤ 10000 := by omega
          rw [hs0] at hcl HV
          clear hs0
          have hwr := wrap_in (n := s - ri) (by omega)
          have hkz' : (k : Int) < (z : Int) := by omega
          clear hcc hkl hx hx6 hxL ht hc hik
          go_wp2_with fail
          go_region
          go_wp2_with fail
          go_roundw
          case rel => exact ⟨k + 1, by omega, by first | rfl | go_num, by first | exact Lib.hid HV.out.drew | exact HV⟩
          case measure => simp [intOf]; omega
        · obtain rfl : k = z := by omega
          have v1 : decide ((k : Int) < (k : Int)) = false := decide_eq_false (by omega)
          have HN2 := Lib.hid (show Lft room ws n M (am n r) w2 wr g c (i + 1) 0 from Lft.next (by rw [HZ.out]; exact HK.out) hlt)
          clear hik
          go_wp2_with fail
          go_roundw
          case rel => exact ⟨i + 1, by omega, by first | rfl | go_num, HN2⟩
          case measure => simp [intOf]; omega
    · obtain rfl : i = n := by omega
      have u1 : decide ((i : Int) < (i : Int)) = false := decide_eq_false (by omega)
      have HL9 := Lib.hid HL.out.bel
      have HLF : Hid (∀ x : Nat, x < n1 → wr.cell? ⟨g, x, none⟩ = some (.int .i64 (lf room ws r (x : Int)))) := Lib.hid fun x hx => HL.out.left HG.out.once HN.out (by omega)
      obtain ⟨w4, rfl⟩ : ∃ z, z = wr := ⟨wr, rfl⟩
      clear HL
      go_wp2_with fail
      go_loopw [11] (fun iv wr => ∃ k : Nat, k ≤ n1 ∧ iv = .int .i64 k ∧ wr = w4) (fun i _ => n1 - (intOf i).toNat)
      case atStart => exact ⟨0, Nat.zero_le _, rfl, rfl⟩
      case round =>
        obtain ⟨k, hk, rfl, rfl⟩ := hrel
        by_cases hkn : k < n1
        · have v1 : decide ((k : Int) < (n1 : Int)) = true := decide_eq_true (by omega)
          have hcl := HLF.out k hkn
          have h0 := HE2.out (k : Int) (by omega) (by rw [← HN1.out]; omega)
          have u2 : decide (lf room ws r (k : Int) < 0) = false := decide_eq_false (by omega)
          have hkM : (k : Int) < (M : Int) := by omega
          clear h0
          generalize lf room ws r (k : Int) = y at hcl u2
          go_wp2_with fail
          go_roundw
          case rel => exact ⟨k + 1, by omega, by first | rfl | go_num, by first | trivial | rfl⟩
          case measure => simp [intOf]; omega
        · obtain rfl : k = n1 := by omega
          have v1 : decide ((k : Int) < (k : Int)) = false := decide_eq_false (by omega)
          obtain ⟨w5, rfl⟩ : ∃ z, z = wr := ⟨wr, rfl⟩
          go_wp2_with fail
          go_loopw [12] (fun iv wr => ∃ j : Nat, j ≤ i ∧ iv = .int .i64 j ∧ wr = w5) (fun k _ => i - (intOf k).toNat)
          case atStart => exact ⟨0, Nat.zero_le _, rfl, rfl⟩
          case round =>
            obtain ⟨j, hj, rfl, rfl⟩ := hrel
            by_cases hji : j < i
            · have v3 : decide ((j : Int) < (i : Int)) = true := decide_eq_true (by omega)
              have hjl : j < ws.length := by rw [← HN.out]; exact hji
              obtain ⟨b, off, rfl, hrow⟩ := rows_both HI.out (by omega)
              obtain ⟨q1, c1, hlz, hrw⟩ := hrow j hjl
              obtain ⟨hck, hik⟩ := hrw wr (HBW.out wr HL9.out)
              obtain ⟨z, hz⟩ : ∃ z, (row ws j).length = z := ⟨_, rfl⟩
              rw [hz] at hlz hck
              have HIK := Lib.hid hik
              have HZ := Lib.hid hz
              have HJL := Lib.hid hjl
              have hji' : (j : Int) < (i : Int) := by omega
              obtain ⟨w6, rfl⟩ : ∃ z, z = wr := ⟨wr, rfl⟩
              clear hrow hrw hz hjl hik
              go_wp2_with fail
              go_loopw [13, 14] (fun fv kv wr => ∃ (k : Nat) (fb : Bool), k ≤ z ∧ kv = .int .i64 k ∧ fv = .bool fb ∧ wr = w6 ∧ Hid (fb = true ↔ ∃ k', k' < k ∧ lf room ws r ((row ws j)[k']?.getD 0) < (i : Int))) (fun _ k _ => z - (intOf k).toNat)
              case atStart => exact ⟨0, false, Nat.zero_le _, rfl, rfl, rfl, Lib.hid ⟨fun h => (nomatch h), fun ⟨k', h, _⟩ => absurd h (Nat.not_lt_zero _)⟩⟩
              case round =>
                obtain ⟨k, fb, hk, rfl, rfl, rfl, HF⟩ := hrel
                by_cases hkz : k < z
                · have v4 : decide ((k : Int) < (z : Int)) = true := decide_eq_true (by omega)
                  have hkl : k < (row ws j).length := by rw [HZ.out]; exact hkz
                  obtain ⟨x, hx, hx6, hxL⟩ := link_at HG.out HJL.out hkl
                  obtain ⟨b3, off3, rfl, _, hcc⟩ := HIK.out.2.2.2 (by omega)
                  have hck3 := hcc k hkl
                  rw [hx] at hck3
                  have hxM' : (x : Int) < (M : Int) := by have := HN1.out; omega
                  have hcl := HLF.out x (by rw [HN1.out]; exact hxL)
                  have hkz' : (k : Int) < (z : Int) := by omega
                  obtain ⟨y, hy⟩ : ∃ y, lf room ws r (x : Int) = y := ⟨_, rfl⟩
                  rw [hy] at hcl
                  obtain ⟨d, hd⟩ : ∃ d, decide (y < (i : Int)) = d := ⟨_, rfl⟩
                  have HF2 : Hid ((fb || d) = true ↔ ∃ k', k' < k + 1 ∧ lf room ws r ((row ws j)[k']?.getD 0) < (i : Int)) := Lib.hid (by
                    rw [Bool.or_eq_true, HF.out, ← hd, decide_eq_true_iff]
                    constructor
                    · rintro (⟨k', h1, h2⟩ | h)
                      · exact ⟨k', by omega, h2⟩
                      · exact ⟨k, by omega, by rw [hx, hy]; exact h⟩
                    · rintro ⟨k', h1, h2⟩
                      by_cases e : k' = k
                      · subst e; rw [hx, hy] at h2; exact .inr h2
                      · exact .inl ⟨k', by omega, h2⟩)
                  clear hcc hkl hx hx6 hxL hy HF
                  cases fb with
                  | true =>
                    clear hd hck3 hcl
                    go_wp2_with fail
                    go_roundw
                    case rel => exact ⟨k + 1, true, by omega, by first | rfl | go_num, rfl, by first | trivial | rfl, by simpa using HF2⟩
                    case measure => simp [intOf]; omega
                  | false =>
                    go_wp2_with fail
                    go_roundw
                    case rel => exact ⟨k + 1, d, by omega, by first | rfl | go_num, by first | rfl | rw [← hd], by first | trivial | rfl, by simpa using HF2⟩
                    case measure => simp [intOf]; omega
                · obtain rfl : k = z := by omega
                  have v4 : decide ((k : Int) < (k : Int)) = false := decide_eq_false (by omega)
                  obtain rfl : fb = true := HF.out.2 (by
                    obtain ⟨x, hx, h1, _⟩ := HE3.out j HJL.out
                    obtain ⟨k', hk', rfl⟩ := List.getElem_of_mem hx
                    have h2 := us_top (ws := ws) (o := all) ((row ws j)[k'])
                    have h3 := HN.out
                    exact ⟨k', by rw [← HZ.out]; exact hk', by rw [List.getElem?_eq_getElem hk']; show lf room ws r ((row ws j)[k']) < _; omega⟩)
                  go_wp2_with fail
                  go_roundw
                  case rel => exact ⟨j + 1, by omega, by first | rfl | go_num, by first | trivial | rfl⟩
                  case measure => simp [intOf]; omega
            · obtain rfl : j = i := by omega
              have v3 : decide ((j : Int) < (j : Int)) = false := decide_eq_false (by omega)
              go_wp2_with fail
              go_ret
              exact ⟨by first | rfl | simp, HBW.out _ HL9.out⟩

theorem reads : Try.f3.params.toList.all (fun t => Try.prog.readableRec t && decide (t < Try.prog.types.size)) = true := by kernel_rfl

theorem contract (H : Type) (enc : TypeId × Value → H) (W : World) (base : Nat) (args : Array Value) (ds gs : List (DataW H)) (before : List MemPlace)
    (hval : ∀ (j : Nat) t v, Try.f3.params[j]? = some t → args[j]? = some v → Value.okWide Try.prog W .any base t v)
    (hW : DataW.Whole enc Try.prog Try.f3.params.toList Rows.maxminRoomSpec.vars false W args.toList ds gs before) :
    Calls Try.prog 3 args W fun e W' => ∃ v, e = .returned v ∧ Rows.maxminRoomSpec.post enc Try.prog Try.f3 false true false false W args v W' := by
  have hW' := hW
  obtain ⟨p, q, hA0, hV, rfl, hfz, hnd⟩ := hW
  have hA : DataW.TrodAll enc Try.prog W 0 (fun _ => true) true Try.f3.params.toList args.toList ds p := hA0
  have hlt := hA.lt
  rw [Try.params3] at hA hval
  obtain ⟨v0, vs0, d0, ds0, p0, q0, hargs, rfl, rfl, h0, r0⟩ := trodAll_cons hA
  obtain ⟨v1, vs1, d1, ds1, p1, q1, hvs1, rfl, rfl, h1, r1⟩ := trodAll_cons r0
  obtain ⟨hvsn, rfl, rfl⟩ := trodAll_nil r1
  simp only [hvsn, hvs1] at hargs
  obtain rfl : args = #[v0, v1] := by cases args; simp_all
  obtain ⟨rfl, rfl⟩ := trodVars_none hV
  clear hA0
  obtain ⟨p0a, cap0, l0, rfl, i0⟩ := open_intsl Try.underlying22 Try.underlying3 (by kernel_rfl) (hval 0 22 v0 rfl rfl) h0 (fun x hx => hlt x (by simp [hx]))
  obtain ⟨p1a, cap1, l1, rfl, i1, e1⟩ := open_rows Try.underlying23 Try.underlying22 Try.underlying3 (by kernel_rfl) (by kernel_rfl) (hval 1 23 v1 rfl rfl) h1 (fun x hx => hlt x (by simp [hx]))
  exact law_post 4 laid reads rfl Try.underlying4 rfl hW' ⟨rfl, rfl, rfl⟩ (by
    by_cases h : code l0 l1 = 0
    · exact law_good _ _ _ l0 _ _ _ l1 W rfl i0 rfl i1 h
    · exact law_bad _ _ _ l0 _ _ _ l1 W rfl i0 rfl i1 _ rfl h)

set_option maxRecDepth 100000 in
theorem lifted (os : Os) (started : os.Started) (H : Type) (enc : TypeId × Value → H) :
    ReturnsInHanded {} Try.checked os 3 .any (Rows.maxminRoomSpec.pre6 enc Try.prog Try.f3 Rows.maxminRoomRow.domain false) (Rows.maxminRoomSpec.post enc Try.prog Try.f3 false true false false) := by
  refine returnsInHanded_of_change (C := Try.checked) own started (by kernel_rfl) Try.func3
    (ChangeSpec.witness6 (enc := enc) (C := Try.checked) false ⟨#[], #[.slice none 0 0, .slice none 0 0], []⟩ 8 (by kernel_rfl) (by kernel_rfl) (by kernel_rfl) (by kernel_rfl)) ?_
  intro W base args ds gs before hval hW _ _
  exact contract H enc W base args ds gs before hval hW

theorem proved : Rows.MaxminRoomSaid :=
  OpenClaim.holds_of_wide 3 Try.f3 rfl rfl rfl rfl rfl rfl rfl ⟨rfl, rfl, rfl, rfl, rfl⟩ rfl rfl rfl rfl rfl (by kernel_rfl) Try.func3 (by kernel_rfl)
    (of_decide_eq_true (by kernel_rfl)) (by unfold Func.isWrapper; first | (rw [if_pos (by decide +kernel)]; kernel_rfl) | (rw [if_neg (by decide +kernel)]; exact ⟨rfl, rfl⟩))
    (fun os started H enc _ => lifted os started H enc)
end Go.Proofs.Ytggnpecmldnmnaa.MaxminRoomL
