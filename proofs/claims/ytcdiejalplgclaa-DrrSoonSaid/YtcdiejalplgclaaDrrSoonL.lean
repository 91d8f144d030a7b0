/- DrrSoon: if the quantum is at least the largest packet, every queue is served in the first turn: for every input. No condition. -/
import Derived.Test.YtcdiejalplgclaaDrrLaw
import Derived.BigQuiet
namespace Go.Proofs.Ytcdiejalplgclaa.DrrSoonL
open Go.ChangeShapes Go.WideShapes Go.ChangeAt Go.RowKit Go.Proofs.Ytcdiejalplgclaa.Kit Go.Proofs.Ytcdiejalplgclaa.App Go.Proofs.Ytcdiejalplgclaa.Err Go.Proofs.Ytcdiejalplgclaa.Drr
set_option linter.unusedVariables false
set_option maxRecDepth 20000
set_option maxHeartbeats 2000000
theorem ints_take {w : World} {p : Option Addr} {cap : Nat} {l : List Int} (h : Ints w p cap l) (i : Nat) (hi : i ≤ l.length) : Ints w p cap (l.take i) := by
  by_cases h0 : 0 < l.length
  · obtain ⟨b, off, rfl⟩ := some_ints h h0
    exact ints_cut h i hi cap (Nat.le_trans hi h.1) h.2.1
  · have : l = [] := List.eq_nil_of_length_eq_zero (by omega)
    subst this
    rw [List.take_nil]; exact h
abbrev Law (p : Option Addr) (n cap : Nat) (Q : Int) (a : Int) (w : World) : Prop := Calls Try.prog 5 #[.slice p n cap, .int .i64 Q, .int .i64 a] w fun e w' => e = .returned (.bool true) ∧ Below w.heap.size w w'
theorem law_bad (p : Option Addr) (n cap : Nat) (ls : List (List Int)) (Q : Int) (a : Int) (w : World) (hn : n = ls.length) (hi : RowsI w p cap ls) (c : Int) (hc : codeQ ls Q = c) (h0 : c ≠ 0) : Law p n cap Q a w := by
  have RU := Lib.hid (fun W (hW : Below w.heap.size w W) => run_any p cap n ls Q W hn (hi.below hW) c hc [] (fun h => absurd h h0) (fun _ => rfl) 0 rfl)
  rw [er_ne h0] at RU
  clear hn hi hc h0
  have FA := Lib.hid (fact_any w)
  unfold Law
  go_enter Try.func5, Try.ntmps5
  go_wp2_with fail
  refine FA.out.mono ?_; rintro e w1 ⟨rfl, hb1⟩
  clear FA
  go_wp2_with fail
  refine (RU.out w1 hb1).mono ?_; rintro e w2 ⟨⟨r, cr, rfl, _⟩, hb2⟩
  have HB2 := Lib.hid (bcall hb1 hb2)
  clear RU hb1 hb2
  go_wp2_with fail
  go_ret
  exact ⟨by first | rfl | simp, HB2.out⟩
theorem law_out (p : Option Addr) (n cap : Nat) (ls : List (List Int)) (Q : Int) (a : Int) (w : World) (hn : n = ls.length) (hi : RowsI w p cap ls) (hz : codeQ ls Q = 0) (hab : ¬ (0 ≤ a ∧ a ≤ (n : Int) - 1)) : Law p n cap Q a w := by
  obtain ⟨hg, hQ⟩ := codeQ_zero.1 hz
  obtain ⟨N, L, hL⟩ := runs_of hg hQ.1
  obtain ⟨k, hk⟩ : ∃ k, L.length = k := ⟨_, rfl⟩
  have RU := Lib.hid (fun W (hW : Below w.heap.size w W) => run_any p cap n ls Q W hn (hi.below hW) 0 hz L (fun _ => ⟨N, hL⟩) (fun h => absurd rfl h) k hk)
  rw [er_0] at RU
  have hn5 : n ≤ 5 := by rw [hn]; exact hg.1
  have IA := Lib.hid (fun W => in_any a 0 ((n : Int) - 1) W false (in_false hab))
  clear hn hi hz hL hk hg hQ hab
  have FA := Lib.hid (fact_any w)
  unfold Law
  go_enter Try.func5, Try.ntmps5
  go_wp2_with fail
  refine FA.out.mono ?_; rintro e w1 ⟨rfl, hb1⟩
  clear FA
  go_wp2_with fail
  refine (RU.out w1 hb1).mono ?_; rintro e w2 ⟨⟨r, cr, rfl, _⟩, hb2⟩
  have HB2 := Lib.hid (bcall hb1 hb2)
  clear RU hb1 hb2
  go_wp2_with fail
  refine (IA.out _).mono ?_; rintro e w3 ⟨rfl, rfl⟩
  go_wp2_with fail
  go_ret
  exact ⟨by first | rfl | simp, HB2.out⟩
theorem law_good (p : Option Addr) (n cap : Nat) (ls : List (List Int)) (Q : Int) (α : Nat) (w : World) (hn : n = ls.length) (hi : RowsI w p cap ls) (hz : codeQ ls Q = 0) (ha : α < n) : Law p n cap Q (α : Int) w := by
  obtain ⟨hg, hQ⟩ := codeQ_zero.1 hz
  obtain ⟨N, L, hL⟩ := runs_of hg hQ.1
  obtain ⟨k, hk⟩ : ∃ k, L.length = k := ⟨_, rfl⟩
  have RU := Lib.hid (fun W (hW : Below w.heap.size w W) => run_any p cap n ls Q W hn (hi.below hW) 0 hz L (fun _ => ⟨N, hL⟩) (fun h => absurd rfl h) k hk)
  rw [er_0] at RU
  obtain ⟨hc1, hc2, hc3⟩ := once_all hL
  have IA := Lib.hid (fun W => in_any (α : Int) 0 ((n : Int) - 1) W true (in_true (by omega)))
  have HO := Lib.hid hc1
  have HF := Lib.hid (fun (h : ∀ k, ∀ x ∈ row ls k, 1 ≤ x ∧ x ≤ Q) (h1 : row ls α ≠ []) => soon_all h (by omega) hL (by rw [← hn]; exact ha) h1)
  have HI := Lib.hid (rows_at hi)
  have HN := Lib.hid hn
  have HK := Lib.hid hk
  have hk40 : k ≤ 40 := by rw [← hk, hc2]; exact things_le hg
  have hn5 : n ≤ 5 := by rw [hn]; exact hg.1
  have HG := Lib.hid hg
  obtain ⟨q1, q2⟩ := hQ
  clear hn hi hz hL hk hc1 hc2 hc3 hg
  have FA := Lib.hid (fact_any w)
  unfold Law
  go_enter Try.func5, Try.ntmps5
  go_wp2_with fail
  refine FA.out.mono ?_; rintro e w1 ⟨rfl, hb1⟩
  clear FA
  go_wp2_with fail
  refine (RU.out w1 hb1).mono ?_; rintro e w2 ⟨⟨r, cr, rfl, hI⟩, hb2⟩
  have HL := Lib.hid hI
  have HB2 := Lib.hid (bcall hb1 hb2)
  clear RU hb1 hb2 hI
  go_wp2_with fail
  refine (IA.out _).mono ?_; rintro e w4 ⟨rfl, rfl⟩
  clear IA
  have HB2 := HB2
  go_wp2_with fail
  go_loopw [10] (fun iv wr => ∃ (i : Nat), i ≤ n ∧ iv = .int .i64 i ∧ Hid (wr = w4) ∧ Hid (∀ j, j < i → ∀ x ∈ row ls j, x ≤ Q)) (fun i _ => n - (intOf i).toNat)
  case atStart => exact ⟨0, Nat.zero_le _, rfl, Lib.hid rfl, Lib.hid (fun j h => by omega)⟩
  case round =>
    obtain ⟨i, hi, rfl, HW, HM⟩ := hrel
    by_cases hin : i < n
    · have u1 : decide ((i : Int) < (n : Int)) = true := decide_eq_true (by omega)
      have hil : i < ls.length := by rw [← HN.out]; exact hin
      obtain ⟨b, off, rfl, hcc⟩ := HI.out (by omega)
      obtain ⟨q, c1, hck, hik⟩ := hcc w4 HB2.out i hil
      have HFI := Lib.hid (HG.out.row i)
      obtain ⟨l, hl⟩ : ∃ l, row ls i = l := ⟨_, rfl⟩
      have HROW := Lib.hid hl
      rw [hl] at hck hik HFI
      obtain ⟨m, hm⟩ : ∃ m, l.length = m := ⟨_, rfl⟩
      rw [hm] at hck
      have HMM := Lib.hid hm
      have HIK := Lib.hid hik
      have hm8 : m ≤ 8 := by rw [← hm]; exact HFI.out.1
      clear hil hcc hm hl hik
      have HCK := Lib.hid hck
      clear hck
      go_wp2_with fail
      go_loopw [11] (fun tv wr => ∃ (t : Nat), t ≤ m ∧ tv = .int .i64 t ∧ Hid (wr = w4) ∧ Hid (∀ x ∈ l.take t, x ≤ Q)) (fun t _ => m - (intOf t).toNat)
      case atStart => exact ⟨0, Nat.zero_le _, rfl, HW, Lib.hid (by simp)⟩
      case round =>
        obtain ⟨t, ht, rfl, HW2, HT⟩ := hrel
        clear HW
        have hck : wr.cell? ⟨b, off + i, none⟩ = some (.slice q m c1) := by rw [HW2.out]; exact HCK.out
        by_cases htm : t < m
        · have u2 : decide ((t : Int) < (m : Int)) = true := decide_eq_true (by omega)
          have htl : t < l.length := by rw [HMM.out]; exact htm
          obtain ⟨qb, qo, rfl⟩ := some_ints HIK.out (by omega)
          have hcy := cell_ints (w := wr) (by rw [HW2.out]; exact HIK.out) t htl
          have HTS := Lib.hid (take_step htl)
          generalize l[t]?.getD 0 = y at hcy HTS
          clear htl
          by_cases hgt : Q < y
          · have u3 : decide (y > Q) = true := decide_eq_true hgt
            have HB3 := Lib.hid (show Below w.heap.size w wr by rw [HW2.out]; exact HB2.out)
            clear hgt
            go_wp2_with fail
            go_ret
            exact ⟨rfl, HB3.out⟩
          · have u3 : decide (y > Q) = false := decide_eq_false hgt
            have HT3 := Lib.hid (show ∀ x ∈ l.take (t + 1), x ≤ Q from fun x hx => by
              rw [HTS.out] at hx
              rcases List.mem_append.1 hx with hx | hx
              · exact HT.out x hx
              · rw [List.mem_singleton.1 hx]; omega)
            clear hgt
            go_wp2_with fail
            go_roundw
            case rel => exact ⟨t + 1, by omega, by first | rfl | go_num, HW2, HT3⟩
            case measure => simp [intOf]; omega
        · obtain rfl : t = m := by omega
          have u2 : decide ((t : Int) < (t : Int)) = false := decide_eq_false (by omega)
          have HM3 := Lib.hid (show ∀ j, j < i + 1 → ∀ x ∈ row ls j, x ≤ Q from fun j h x hx => by
            by_cases e : j = i
            · subst e
              rw [HROW.out] at hx
              exact HT.out x (by rw [List.take_of_length_le (by rw [HMM.out]; exact Nat.le_refl _)]; exact hx)
            · exact HM.out j (by omega) x hx)
          go_wp2_with fail
          go_roundw
          case rel => exact ⟨i + 1, by omega, by first | rfl | go_num, HW2, HM3⟩
          case measure => simp [intOf]; omega
    · obtain rfl : i = n := by omega
      have u1 : decide ((i : Int) < (i : Int)) = false := decide_eq_false (by omega)
      have HALL := Lib.hid (show ∀ j, ∀ x ∈ row ls j, 1 ≤ x ∧ x ≤ Q from fun j x hx => by
        refine ⟨((HG.out.row j).2 x hx).1, ?_⟩
        by_cases h : j < i
        · exact HM.out j h x hx
        · rw [row_out (by rw [← HN.out]; omega)] at hx; simp at hx)
      clear HM
      have hw4 := HW.out.symm
      subst hw4
      clear HW
      have hαl : α < ls.length := by rw [← HN.out]; exact ha
      obtain ⟨b, off, rfl, hcc⟩ := HI.out (by omega)
      obtain ⟨q, c1, hck, _⟩ := hcc w4 HB2.out α hαl
      have HCC := Lib.hid hcc
      have HOA := Lib.hid (HO.out α)
      obtain ⟨m, hm⟩ : ∃ m, (row ls α).length = m := ⟨_, rfl⟩
      rw [hm] at hck HOA
      have hm8 : m ≤ 8 := by rw [← hm]; exact (HG.out.row α).1
      clear hαl hcc
      by_cases hm0 : m = 0
      · have v1 : ((m : Int) == 0) = true := by rw [hm0]; rfl
        have CO := Lib.hid (count_any r cr k L (α : Int) w4 HK.out.symm HL.out 0 (by rw [HOA.out, hm0]))
        clear hm0 HF hm
        go_wp2_with fail
        refine CO.out.mono ?_; rintro e w5 ⟨rfl, rfl⟩
        go_wp2_with fail
        go_ret
        exact ⟨by first | rfl | simp, HB2.out⟩
      · have v1 : ((m : Int) == 0) = false := by rw [beq_eq_false_iff_ne]; omega
        obtain ⟨o1, X1, hx1, hx2, hx3⟩ := HF.out HALL.out (by intro h; rw [h] at hm; exact hm0 hm.symm)
        have HX1 := Lib.hid hx1
        have HX2 := Lib.hid hx2
        have HX3 := Lib.hid hx3
        obtain ⟨z, hz⟩ : ∃ z, o1.length = z := ⟨_, rfl⟩
        have HZ := Lib.hid hz
        have hzk : z < k := by rw [← HK.out, hx1, ← hz]; simp
        obtain ⟨rb, ro, rfl⟩ := some_ints HL.out (by rw [HK.out]; omega)
        clear hx1 hx2 hx3 hz hm hm0 HF
        have HNS := Lib.hid (show ∀ t, t < k → L[t]?.getD 0 ∈ L from fun t h => by rw [List.getElem?_eq_getElem (by rw [HK.out]; exact h)]; exact List.getElem_mem _)
        have HCAP := Lib.hid HL.out.1
        have hcr : k ≤ cr := by have := HCAP.out; rw [HK.out] at this; exact this
        have hcr2 : cr ≤ 9223372036854775807 := by have := HL.out.2.1; unfold maxLen at this; omega
        go_wp2_with fail
        go_loopw [12] (fun tv wr => ∃ t : Nat, t ≤ z ∧ tv = .int .i64 t ∧ Hid (wr = w4)) (fun t _ => z - (intOf t).toNat)
        case atStart => exact ⟨0, Nat.zero_le _, rfl, Lib.hid rfl⟩
        case round =>
          obtain ⟨t, ht, rfl, HW⟩ := hrel
          have u2 : decide ((t : Int) < (k : Int)) = true := decide_eq_true (by omega)
          have hcx := cell_ints (w := wr) (by rw [HW.out]; exact HL.out) t (by rw [HK.out]; omega)
          by_cases htz : t < z
          · have hxt : L[t]?.getD 0 < (α : Int) := by
              rw [HX1.out, List.getElem?_append_left (by rw [HZ.out]; exact htz), List.getElem?_eq_getElem (by rw [HZ.out]; exact htz)]
              exact HX2.out _ (List.getElem_mem _)
            generalize L[t]?.getD 0 = x at hcx hxt
            have u3 : (x != (α : Int)) = true := by rw [bne_iff_ne]; omega
            go_wp2_with fail
            go_roundw
            case rel => exact ⟨t + 1, by omega, by first | rfl | go_num, HW⟩
            case measure => simp [intOf]; omega
          · obtain rfl : t = z := by omega
            have hxt : L[t]?.getD 0 = (α : Int) := by
              rw [HX1.out, List.getElem?_append_right (by rw [HZ.out]; exact Nat.le_refl _), HZ.out, Nat.sub_self]; rfl
            rw [hxt] at hcx
            have u3 : ((α : Int) != (α : Int)) = false := by simp
            clear hxt
            go_wp2_with fail
            have hw4 := HW.out.symm
            subst hw4
            clear HW
            have HLO := Lib.hid (show L.take t = o1 by rw [HX1.out, List.take_left' HZ.out])
            have hu := u2
            clear hcx u3 u2 hck u1
            go_loopw [13] (fun jv wr => ∃ j : Nat, j ≤ i ∧ jv = .int .i64 j ∧ Hid (wr = w4)) (fun j _ => i - (intOf j).toNat)
            case atStart => exact ⟨0, Nat.zero_le _, rfl, Lib.hid rfl⟩
            case round =>
              obtain ⟨j, hj, rfl, HW⟩ := hrel
              have HB3 := Lib.hid (show Below w.heap.size w wr by rw [HW.out]; exact HB2.out)
              by_cases hji : j < i
              · have u1 : decide ((j : Int) < (i : Int)) = true := decide_eq_true (by omega)
                have hjl : j < ls.length := by rw [← HN.out]; exact hji
                obtain ⟨q, c1, hck, hik⟩ := HCC.out wr HB3.out j hjl
                obtain ⟨e, he⟩ : ∃ e, o1.count (j : Int) = e := ⟨_, rfl⟩
                have CO := Lib.hid (count_any (some ⟨rb, ro, none⟩) cr t o1 (j : Int) wr HZ.out.symm (by rw [← HLO.out, HW.out]; exact ints_cut HL.out t (by rw [HK.out]; omega) cr (by omega) HL.out.2.1) e he)
                have hem : e ≤ (row ls j).length := by
                  rw [← he, ← HLO.out, ← HO.out j]
                  exact List.Sublist.count_le _ (List.take_sublist _ _)
                have hej : α ≤ j → e = 0 := fun h => by
                  rw [← he]
                  exact List.count_eq_zero.2 (fun hm => by have := HX2.out _ hm; omega)
                have hsv := HX3.out j
                unfold Drr.served at hsv
                rw [he] at hsv
                have hfine := HG.out.row j
                obtain ⟨c, hc⟩ : ∃ c, tot ((row ls j).take e) = c := ⟨_, rfl⟩
                rw [hc] at hsv
                have hcap1 := hik.1
                have hcap2 : c1 ≤ 9223372036854775807 := by have := hik.2.1; unfold maxLen at this; omega
                have AL := Lib.hid (all_tot q c1 e ((row ls j).take e) wr (by rw [List.length_take]; omega) (ints_take hik e hem) ⟨by rw [List.length_take]; have := hfine.1; omega, fun x hx => hfine.2 x (List.mem_of_mem_take hx)⟩ c hc)
                obtain ⟨m', hm'⟩ : ∃ m, (row ls j).length = m := ⟨_, rfl⟩
                rw [hm'] at hck hem hcap1
                have v4 : decide (c > Q) = false := decide_eq_false (by omega)
                have v3 : decide ((e : Int) > (m' : Int)) = false := decide_eq_false (by omega)
                have hec : e ≤ c1 := by omega
                have hm8' : m' ≤ 8 := by rw [← hm']; exact hfine.1
                clear hjl hik he hfine hc hm' hcap1
                by_cases hαj : α ≤ j
                · have v2 : decide ((j : Int) ≥ (α : Int)) = true := decide_eq_true (by omega)
                  obtain rfl := hej hαj
                  have v5 : decide (((0 : Nat) : Int) > 0) = false := by decide
                  clear hej
                  go_wp2_with fail
                  refine CO.out.mono ?_; rintro e w5 ⟨rfl, rfl⟩
                  go_wp2_with fail
                  refine AL.out.mono ?_; rintro e w6 ⟨rfl, rfl⟩
                  go_wp2_with fail
                  go_roundw
                  case rel => exact ⟨j + 1, by omega, by first | rfl | go_num, HW⟩
                  case measure => simp [intOf]; omega
                · have v2 : decide ((j : Int) ≥ (α : Int)) = false := decide_eq_false (by omega)
                  clear hej
                  go_wp2_with fail
                  refine CO.out.mono ?_; rintro e w5 ⟨rfl, rfl⟩
                  go_wp2_with fail
                  refine AL.out.mono ?_; rintro e w6 ⟨rfl, rfl⟩
                  go_wp2_with fail
                  go_roundw
                  case rel => exact ⟨j + 1, by omega, by first | rfl | go_num, HW⟩
                  case measure => simp [intOf]; omega
              · obtain rfl : j = i := by omega
                have u1 : decide ((j : Int) < (j : Int)) = false := decide_eq_false (by omega)
                go_wp2_with fail
                go_ret
                exact ⟨by first | rfl | simp, HB3.out⟩

theorem reads : Try.f5.params.toList.all (fun t => Try.prog.readableRec t && decide (t < Try.prog.types.size)) = true := by kernel_rfl

theorem contract (H : Type) (enc : TypeId × Value → H) (W : World) (base : Nat) (args : Array Value) (ds gs : List (DataW H)) (before : List MemPlace)
    (hval : ∀ (j : Nat) t v, Try.f5.params[j]? = some t → args[j]? = some v → Value.okWide Try.prog W .any base t v)
    (hW : DataW.Whole enc Try.prog Try.f5.params.toList Rows.drrSoonSpec.vars false W args.toList ds gs before) :
    Calls Try.prog 5 args W fun e W' => ∃ v, e = .returned v ∧ Rows.drrSoonSpec.post enc Try.prog Try.f5 false true false false W args v W' := by
  have hW' := hW
  obtain ⟨p, q, hA0, hV, rfl, hfz, hnd⟩ := hW
  have hA : DataW.TrodAll enc Try.prog W 0 (fun _ => true) true Try.f5.params.toList args.toList ds p := hA0
  have hlt := hA.lt
  rw [Try.params5] at hA hval
  obtain ⟨v0, vs0, d0, ds0, p0, q0, hargs, rfl, rfl, h0, r0⟩ := trodAll_cons hA
  obtain ⟨v1, vs1, d1, ds1, p1, q1, hvs1, rfl, rfl, h1, r1⟩ := trodAll_cons r0
  obtain ⟨v2, vs2, d2, ds2, p2, q2, hvs2, rfl, rfl, h2, r2⟩ := trodAll_cons r1
  obtain ⟨hvsn, rfl, rfl⟩ := trodAll_nil r2
  simp only [hvsn, hvs2, hvs1] at hargs
  obtain rfl : args = #[v0, v1, v2] := by cases args; simp_all
  obtain ⟨rfl, rfl⟩ := trodVars_none hV
  clear hA0
  obtain ⟨p0a, cap0, l0, rfl, i0, e0⟩ := open_rows Try.underlying22 Try.underlying24 Try.underlying3 (by kernel_rfl) (by kernel_rfl) (hval 0 22 v0 rfl rfl) h0 (fun x hx => hlt x (by simp [hx]))
  obtain ⟨a1, rfl, rfl, rfl, w1⟩ := open_int Try.underlying3 (hval 1 3 v1 rfl rfl) h1
  have b1 := bounds_int w1
  obtain ⟨a2, rfl, rfl, rfl, w2⟩ := open_int Try.underlying3 (hval 2 3 v2 rfl rfl) h2
  have b2 := bounds_int w2
  exact law_post 4 laid reads rfl Try.underlying4 rfl hW' ⟨rfl, rfl, rfl⟩ (by
    by_cases h : codeQ l0 a1 = 0
    · by_cases hab : 0 ≤ a2 ∧ a2 ≤ (l0.length : Int) - 1
      · obtain ⟨h1, h2⟩ := hab
        obtain ⟨α, rfl⟩ : ∃ α : Nat, a2 = (α : Int) := ⟨a2.toNat, by omega⟩
        exact law_good _ _ _ l0 a1 α W rfl i0 h (by omega)
      · exact law_out _ _ _ l0 a1 a2 W rfl i0 h hab
    · exact law_bad _ _ _ l0 a1 a2 W rfl i0 _ rfl h)

set_option maxRecDepth 100000 in
theorem lifted (os : Os) (started : os.Started) (H : Type) (enc : TypeId × Value → H) :
    ReturnsInHanded {} Try.checked os 5 .any (Rows.drrSoonSpec.pre6 enc Try.prog Try.f5 Rows.drrSoonRow.domain false) (Rows.drrSoonSpec.post enc Try.prog Try.f5 false true false false) := by
  refine returnsInHanded_of_change (C := Try.checked) own started (by kernel_rfl) Try.func5
    (ChangeSpec.witness6 (enc := enc) (C := Try.checked) false ⟨#[], #[.slice none 0 0, .int .i64 0, .int .i64 0], []⟩ 8 (by kernel_rfl) (by kernel_rfl) (by kernel_rfl) (by kernel_rfl)) ?_
  intro W base args ds gs before hval hW _ _
  exact contract H enc W base args ds gs before hval hW

theorem proved : Rows.DrrSoonSaid :=
  OpenClaim.holds_of_wide 5 Try.f5 rfl rfl rfl rfl rfl rfl rfl ⟨rfl, rfl, rfl, rfl, rfl⟩ rfl rfl rfl rfl rfl (by kernel_rfl) Try.func5 (by kernel_rfl)
    (of_decide_eq_true (by kernel_rfl)) (by unfold Func.isWrapper; first | (rw [if_pos (by decide +kernel)]; kernel_rfl) | (rw [if_neg (by decide +kernel)]; exact ⟨rfl, rfl⟩))
    (fun os started H enc _ => lifted os started H enc)
end Go.Proofs.Ytcdiejalplgclaa.DrrSoonL
