/- VectorBoth: it is as far there as back, and no farther than over any third node: for every input. No condition. -/
import Derived.Test.YthggfkdpggfkbaaVecFact
import Derived.Test.YthggfkdpggfkbaaTabAt
import Derived.Test.YthggfkdpggfkbaaIn3
import Derived.BigQuiet
namespace Go.Proofs.Ythggfkdpggfkbaa.VectorBothL
open Go.ChangeShapes Go.WideShapes Go.ChangeAt Go.RowKit Go.Proofs.Ythggfkdpggfkbaa.Kit Go.Proofs.Ythggfkdpggfkbaa.App Go.Proofs.Ythggfkdpggfkbaa.Cells Go.Proofs.Ythggfkdpggfkbaa.Err Go.Proofs.Ythggfkdpggfkbaa.Vector
set_option linter.unusedVariables false
set_option maxRecDepth 20000
set_option maxHeartbeats 2000000
abbrev Law (n : Int) (p : Option Addr) (m cap : Nat) (w : World) : Prop := Calls Try.prog 4 #[.int .i64 n, .slice p m cap] w fun e w' => e = .returned (.bool true) ∧ Below w.heap.size w w'
theorem law_bad (n : Int) (p : Option Addr) (m cap : Nat) (ls : List Lk) (w : World) (hm : m = ls.length) (hi : CI layL w p cap ls) (c : Int) (hc : code2 n ls 8 = c) (h0 : c ≠ 0) : Law n p m cap w := by
  have hlm := hi.len_le
  rw [← hm] at hlm
  have RA := Lib.hid (fun W (hW : Below w.heap.size w W) => rounds_bad n 8 p cap m ls W hm (hi.below hW) c hc h0)
  rw [er_ne h0] at RA
  clear hm hi hc h0
  have FA := Lib.hid (fact_any w)
  unfold Law
  go_enter Try.func4, Try.ntmps4
  go_wp2_with fail
  refine FA.out.mono ?_; rintro e w1 ⟨rfl, hb1⟩
  clear FA
  go_wp2_with fail
  refine (RA.out w1 hb1).mono ?_; rintro e w2 ⟨rfl, hb2⟩
  have HB2 := Lib.hid (bcall hb1 hb2)
  clear RA hb1 hb2
  go_wp2_with fail
  go_ret
  exact ⟨by first | rfl | simp, HB2.out⟩
theorem law_good (n : Nat) (p : Option Addr) (m cap : Nat) (ls : List Lk) (w : World) (hm : m = ls.length) (hi : CI layL w p cap ls) (g : Vector.Good n ls) : Law n p m cap w := by
  have hlm := hi.len_le
  rw [← hm] at hlm
  have RA := Lib.hid (fun W (hW : Below w.heap.size w W) => rounds_good n 8 p cap m ls W g hm (hi.below hW) (by decide))
  rw [show ((8 : Nat) : Int) = 8 from rfl] at RA
  have hn1 := g.lo
  have hn8 := g.up
  have HSE := Lib.hid (fun i => D_self g 8 i)
  have HSY := Lib.hid (fun i j => D_sym g 8 i j)
  have HPO := Lib.hid (fun i j (h : i ≠ j) => D_pos g 8 h)
  have HTR := Lib.hid (fun i j k (hj : j < n) => D_tri (k := 8) (i := i) (x := k) g hj (by omega))
  have HBO := Lib.hid (fun i j => D_b g 8 i j)
  have u0 : ((n : Int) != (n : Int)) = false := by simp
  clear hm hi g
  have FA := Lib.hid (fact_any w)
  unfold Law
  go_enter Try.func4, Try.ntmps4
  go_wp2_with fail
  refine FA.out.mono ?_; rintro e w1 ⟨rfl, hb1⟩
  clear FA
  go_wp2_with fail
  refine (RA.out w1 hb1).mono ?_; rintro e w5 ⟨ba, rfl, hra, hb4⟩
  have HB5 := Lib.hid (bcall hb1 hb4)
  obtain ⟨A⟩ := tab_at hra hn1
  clear RA hra hb1 hb4
  obtain ⟨ab, ao, ac, a2, ao2, hap, ahd, acl⟩ := A
  injection hap with hap
  injection hap with e1 e2
  subst e1; subst e2
  have AH := Lib.hid ahd
  have AC := Lib.hid acl
  clear ahd acl
  go_wp2_with fail
  go_loopw [8] (fun iv wr => ∃ i : Nat, i ≤ n ∧ iv = .int .i64 i ∧ wr = w5) (fun i _ => n - (intOf i).toNat)
  case atStart => exact ⟨0, Nat.zero_le _, rfl, rfl⟩
  case round =>
    obtain ⟨i, hin, rfl, rfl⟩ := hrel
    by_cases hlt : i < n
    · have v0 : decide ((i : Int) < (n : Int)) = true := decide_eq_true (by omega)
      have v0' : (i : Int) < (n : Int) := by omega
      have h1 := AH.out wr (brefl _) i hlt
      rw [Nat.zero_add] at h1
      have c1 := AC.out wr (brefl _) i i hlt hlt
      rw [HSE.out] at c1
      go_wp2_with fail
      go_roundw
      case rel => exact ⟨i + 1, by omega, by first | rfl | go_num, by first | trivial | rfl⟩
      case measure => simp [intOf]; omega
    · obtain rfl : i = n := by omega
      have v0 : decide ((i : Int) < (i : Int)) = false := decide_eq_false (by omega)
      obtain ⟨w6, rfl⟩ : ∃ z, z = wr := ⟨wr, rfl⟩
      go_wp2_with fail
      clear v0
      go_loopw [9] (fun iv wr => ∃ x : Nat, x ≤ i ∧ iv = .int .i64 x ∧ Hid (Below w6.heap.size w6 wr)) (fun k _ => i - (intOf k).toNat)
      case atStart => exact ⟨0, Nat.zero_le _, rfl, Lib.hid (brefl _)⟩
      case round =>
        obtain ⟨x, hx, rfl, HQ⟩ := hrel
        by_cases hxl : x < i
        · have v0 : decide ((x : Int) < (i : Int)) = true := decide_eq_true (by omega)
          have v0' : (x : Int) < (i : Int) := by omega
          go_wp2_with fail
          obtain ⟨w7, hw7⟩ : ∃ z, z = wr := ⟨wr, rfl⟩
          rw [← hw7] at HQ ⊢
          clear hw7 wr
          go_loopw [10] (fun jv wr => ∃ y : Nat, y ≤ i ∧ jv = .int .i64 y ∧ Hid (Below w6.heap.size w6 wr)) (fun k _ => i - (intOf k).toNat)
          case atStart => exact ⟨0, Nat.zero_le _, rfl, HQ⟩
          case round =>
            obtain ⟨y, hy, rfl, HQ2⟩ := hrel
            clear HQ
            by_cases hyl : y < i
            · have v1 : decide ((y : Int) < (i : Int)) = true := decide_eq_true (by omega)
              have v1' : (y : Int) < (i : Int) := by omega
              have h1 := AH.out wr HQ2.out x hxl
              have h2 := AH.out wr HQ2.out y hyl
              rw [Nat.zero_add] at h1 h2
              have c1 := AC.out wr HQ2.out x y hxl hyl
              have c2 := AC.out wr HQ2.out y x hyl hxl
              rw [HSY.out y x] at c2
              have HT := Lib.hid (fun z => HTR.out x y z hyl)
              have HW := Lib.hid (fun q => bdrewN HQ2.out q)
              have hbo := HBO.out x y
              have HL := Lib.hid (And.intro hxl hyl)
              have ht : (D ls 8 x y != D ls 8 x y) = false := by simp
              have hd : ((x : Int) != (y : Int)) = false ∨ ((x : Int) != (y : Int)) = true ∧ decide (D ls 8 x y < 1) = false := by
                by_cases e : x = y
                · exact .inl (by rw [e]; simp)
                · exact .inr ⟨by rw [bne_iff_ne]; omega, decide_eq_false (by have := HPO.out x y e; omega)⟩
              generalize D ls 8 x y = d at c1 c2 HT hbo ht hd
              rcases hd with hd | ⟨hd, hd2⟩
              all_goals
                go_wp2_with fail
                go_quiet (fail)
                go_wp2_with fail
                clear h1 h2 c1 c2
                have HQ3 := Lib.hid (HW.out nq)
                clear HQ2 HW
                generalize wr.drewN nq = w8 at HQ3 ⊢
                clear wr
                try clear hd2
                clear ht hd
                go_loopw [11] (fun kv wr => ∃ z : Nat, z ≤ i ∧ kv = .int .i64 z ∧ Hid (Below w6.heap.size w6 wr)) (fun k _ => i - (intOf k).toNat)
                case atStart => exact ⟨0, Nat.zero_le _, rfl, HQ3⟩
                case round =>
                  obtain ⟨z, hz, rfl, HQ4⟩ := hrel
                  clear HQ3
                  by_cases hzl : z < i
                  · have v2 : decide ((z : Int) < (i : Int)) = true := decide_eq_true (by omega)
                    have v2' : (z : Int) < (i : Int) := by omega
                    have h1 := AH.out wr HQ4.out x HL.out.1
                    have h2 := AH.out wr HQ4.out z hzl
                    rw [Nat.zero_add] at h1 h2
                    have c1 := AC.out wr HQ4.out x y HL.out.1 HL.out.2
                    have c2 := AC.out wr HQ4.out x z HL.out.1 hzl
                    have c3 := AC.out wr HQ4.out z y hzl HL.out.2
                    have HW := Lib.hid (fun q => bdrewN HQ4.out q)
                    have htr := HTR.out x y z HL.out.2
                    have b2 := HBO.out x z
                    have b3 := HBO.out z y
                    generalize D ls 8 x y = d1 at c1 htr
                    generalize D ls 8 x z = d2 at c2 htr b2
                    generalize D ls 8 z y = d3 at c3 htr b3
                    obtain ⟨e, he⟩ : ∃ e, d2 + d3 = e := ⟨_, rfl⟩
                    have hw : IntKind.i64.wrap (d2 + d3) = e := by rw [← he]; exact wrap_in (n := d2 + d3) ⟨by omega, by omega⟩
                    have v3 : decide (d1 > e) = false := decide_eq_false (by omega)
                    clear htr b2 b3 he
                    go_wp2_with fail
                    go_quiet (fail)
                    go_wp2_with fail
                    go_roundw
                    case rel => exact ⟨z + 1, by omega, by first | rfl | go_num, Lib.hid (HW.out _)⟩
                    case measure => simp [intOf]; omega
                  · obtain rfl : z = i := by omega
                    have v2 : decide ((z : Int) < (z : Int)) = false := decide_eq_false (by omega)
                    go_wp2_with fail
                    go_roundw
                    case rel => exact ⟨y + 1, by omega, by first | rfl | go_num, HQ4⟩
                    case measure => simp [intOf]; omega
            · obtain rfl : y = i := by omega
              have v1 : decide ((y : Int) < (y : Int)) = false := decide_eq_false (by omega)
              go_wp2_with fail
              go_roundw
              case rel => exact ⟨x + 1, by omega, by first | rfl | go_num, HQ2⟩
              case measure => simp [intOf]; omega
        · obtain rfl : x = i := by omega
          have v0 : decide ((x : Int) < (x : Int)) = false := decide_eq_false (by omega)
          have HBF := Lib.hid (bcall HB5.out HQ.out)
          go_wp2_with fail
          go_ret
          exact ⟨by first | rfl | simp, HBF.out⟩
theorem law_any (n : Int) (p : Option Addr) (m cap : Nat) (ls : List Lk) (w : World) (hm : m = ls.length) (hi : CI layL w p cap ls) : Law n p m cap w := by
  obtain ⟨c, hc⟩ : ∃ c, code2 n ls 8 = c := ⟨_, rfl⟩
  by_cases h0 : c = 0
  · rw [h0] at hc
    obtain ⟨k, rfl, g⟩ := good_of (code2_zero.1 hc).1
    exact law_good k p m cap ls w hm hi g
  · exact law_bad n p m cap ls w hm hi c hc h0

theorem reads : Try.f4.params.toList.all (fun t => Try.prog.readableRec t && decide (t < Try.prog.types.size)) = true := by kernel_rfl

theorem contract (H : Type) (enc : TypeId × Value → H) (W : World) (base : Nat) (args : Array Value) (ds gs : List (DataW H)) (before : List MemPlace)
    (hval : ∀ (j : Nat) t v, Try.f4.params[j]? = some t → args[j]? = some v → Value.okWide Try.prog W .any base t v)
    (hW : DataW.Whole enc Try.prog Try.f4.params.toList Rows.vectorBothSpec.vars false W args.toList ds gs before) :
    Calls Try.prog 4 args W fun e W' => ∃ v, e = .returned v ∧ Rows.vectorBothSpec.post enc Try.prog Try.f4 false true false false W args v W' := by
  have hW' := hW
  obtain ⟨p, q, hA0, hV, rfl, hfz, hnd⟩ := hW
  have hA : DataW.TrodAll enc Try.prog W 0 (fun _ => true) true Try.f4.params.toList args.toList ds p := hA0
  have hlt := hA.lt
  rw [Try.params4] at hA hval
  obtain ⟨v0, vs0, d0, ds0, p0, q0, hargs, rfl, rfl, h0, r0⟩ := trodAll_cons hA
  obtain ⟨v1, vs1, d1, ds1, p1, q1, hvs1, rfl, rfl, h1, r1⟩ := trodAll_cons r0
  obtain ⟨hvsn, rfl, rfl⟩ := trodAll_nil r1
  simp only [hvsn, hvs1] at hargs
  obtain rfl : args = #[v0, v1] := by cases args; simp_all
  obtain ⟨rfl, rfl⟩ := trodVars_none hV
  clear hA0
  obtain ⟨a0, rfl, rfl, rfl, w0⟩ := open_int Try.underlying3 (hval 0 3 v0 rfl rfl) h0
  have b0 := bounds_int w0
  obtain ⟨p1a, cap1, l1, rfl, i1, e1⟩ := Go.Proofs.Ythggfkdpggfkbaa.Vector.open_links (hval 1 22 v1 rfl rfl) h1 (fun x hx => hlt x (by simp [hx]))
  exact law_post 4 laid reads rfl Try.underlying4 rfl hW' ⟨rfl, rfl, rfl⟩ (law_any _ _ _ _ _ W rfl i1)

set_option maxRecDepth 100000 in
theorem lifted (os : Os) (started : os.Started) (H : Type) (enc : TypeId × Value → H) :
    ReturnsInHanded {} Try.checked os 4 .any (Rows.vectorBothSpec.pre6 enc Try.prog Try.f4 Rows.vectorBothRow.domain false) (Rows.vectorBothSpec.post enc Try.prog Try.f4 false true false false) := by
  refine returnsInHanded_of_change (C := Try.checked) own started (by kernel_rfl) Try.func4
    (ChangeSpec.witness6 (enc := enc) (C := Try.checked) false ⟨#[], #[.int .i64 0, .slice none 0 0], []⟩ 8 (by kernel_rfl) (by kernel_rfl) (by kernel_rfl) (by kernel_rfl)) ?_
  intro W base args ds gs before hval hW _ _
  exact contract H enc W base args ds gs before hval hW

theorem proved : Rows.VectorBothSaid :=
  OpenClaim.holds_of_wide 4 Try.f4 rfl rfl rfl rfl rfl rfl rfl ⟨rfl, rfl, rfl, rfl, rfl⟩ rfl rfl rfl rfl rfl (by kernel_rfl) Try.func4 (by kernel_rfl)
    (of_decide_eq_true (by kernel_rfl)) (by unfold Func.isWrapper; first | (rw [if_pos (by decide +kernel)]; kernel_rfl) | (rw [if_neg (by decide +kernel)]; exact ⟨rfl, rfl⟩))
    (fun os started H enc _ => lifted os started H enc)
end Go.Proofs.Ythggfkdpggfkbaa.VectorBothL
