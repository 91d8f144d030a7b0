/- RpfAll: all that can be reached are told, and nobody else, and no more copies are sent than each link carries two: for every input. No condition. -/
import Derived.Test.YtedhippamfioeaaRpfFact
import Derived.Test.YtedhippamfioeaaIn3
import Derived.BigQuiet
import Derived.Test.YtedhippamfioeaaRpfSum
import Derived.Test.YtedhippamfioeaaVecCost
namespace Go.Proofs.Ytedhippamfioeaa.RpfAllL
open Go.ChangeShapes Go.WideShapes Go.ChangeAt Go.RowKit Go.Proofs.Ytedhippamfioeaa.Kit Go.Proofs.Ytedhippamfioeaa.App Go.Proofs.Ytedhippamfioeaa.Cells Go.Proofs.Ytedhippamfioeaa.Err Go.Proofs.Ytedhippamfioeaa.Vector Go.Proofs.Ytedhippamfioeaa.Spf Go.Proofs.Ytedhippamfioeaa.Stp Go.Proofs.Ytedhippamfioeaa.Rpf
set_option linter.unusedVariables false
set_option maxRecDepth 20000
set_option maxHeartbeats 4000000
abbrev Law (n : Int) (p : Option Addr) (m cap : Nat) (s : Int) (w : World) : Prop := Calls Try.prog 3 #[.int .i64 n, .slice p m cap, .int .i64 s] w fun e w' => e = .returned (.bool true) ∧ Below w.heap.size w w'
theorem cps_sum (n : Nat) (f : Nat → Nat) : (cps n f).sum = ((sm f n : Nat) : Int) := by
  unfold cps
  induction n with
  | zero => rfl
  | succ k ih =>
    rw [List.range_succ, List.map_append, List.sum_append, ih, sm]
    simp
    try omega
/-- How many of those below k are linked to i. -/
def pk (ls : List Lk) (i k : Nat) : Nat := sm (fun j => if co ls i j ≠ 1000 then 1 else 0) k
theorem pk_yes {ls : List Lk} {i k : Nat} (h : co ls i k ≠ 1000) : pk ls i (k + 1) = pk ls i k + 1 := by
  unfold pk; rw [sm, if_pos h]; try omega
theorem pk_no {ls : List Lk} {i k : Nat} (h : ¬ co ls i k ≠ 1000) : pk ls i (k + 1) = pk ls i k := by
  unfold pk; rw [sm, if_neg h]; try omega
theorem pk_le (ls : List Lk) (i k : Nat) : pk ls i k ≤ k := by
  have := sm_top (f := fun j => if co ls i j ≠ 1000 then 1 else 0) (b := 1) k (fun j _ => by split <;> omega)
  rwa [Nat.mul_one] at this
theorem pairs_next (ls : List Lk) (i : Nat) : pairs ls (i + 1) = pairs ls i + pk ls i i := by
  unfold pairs pk; rw [sm]; try omega
theorem pairs_le (ls : List Lk) (k : Nat) (h : k ≤ 8) : pairs ls k ≤ 64 := by
  have := sm_top (f := fun i => sm (fun j => if co ls i j ≠ 1000 then 1 else 0) i) (b := 8) k (fun i hi => by have := pk_le ls i i; unfold pk at this; omega)
  unfold pairs; omega
theorem law_bad (n s : Int) (p : Option Addr) (m cap : Nat) (ls : List Lk) (w : World) (hm : m = ls.length) (hi : CI layL w p cap ls) (hs : (Lit.int .i64 s).wf = true) (c : Int) (hc : wrong n ls [s] = c) (h0 : c ≠ 0) : Law n p m cap s w := by
  have hlm := hi.len_le
  rw [← hm] at hlm
  have FR := Lib.hid (fun W (hW : Below w.heap.size w W) => flood_bad n s p cap m ls W hm (hi.below hW) hs c hc h0)
  rw [er_ne h0] at FR
  clear hm hi hs hc h0
  have FA := Lib.hid (Rpf.fact_any w)
  unfold Law
  go_enter Try.func3, Try.ntmps3
  go_wp2_with fail
  refine FA.out.mono ?_; rintro e w1 ⟨rfl, hb1⟩
  have HB1 := Lib.hid hb1
  clear FA hb1
  go_wp2_with fail
  refine (FR.out w1 HB1.out).mono ?_; rintro e w2 ⟨rfl, hb⟩
  have HB2 := Lib.hid (bcall HB1.out hb)
  clear FR HB1 hb
  go_wp2_with fail
  go_ret
  exact ⟨by first | rfl | simp, HB2.out⟩
theorem law_good (n s : Nat) (p : Option Addr) (m cap : Nat) (ls : List Lk) (w : World) (hm : m = ls.length) (hi : CI layL w p cap ls) (g : Vector.Good n ls) (hs : s < n) : Law n p m cap s w := by
  have hn8 := g.up
  have hn1 := g.lo
  have hlm := hi.len_le
  rw [← hm] at hlm
  have FL := Lib.hid (fun W (hW : Below w.heap.size w W) => flood_good (s := s) p cap m W hm (hi.below hW) g hs)
  have FR := Lib.hid (fun W (hW : Below w.heap.size w W) => from_good n s p cap m ls W hm (hi.below hW) g hs)
  have RC := Lib.hid (fun W (hW : Below w.heap.size w W) a b => rcost_any p cap m ls a b W hm (hi.below hW))
  have u0 : ((n : Int) != (n : Int)) = false := by simp
  have HG := Lib.hid g
  have HS := Lib.hid hs
  have HLE := Lib.hid (sent_le g s)
  clear hm hi g hs
  have FA := Lib.hid (Rpf.fact_any w)
  unfold Law
  go_enter Try.func3, Try.ntmps3
  go_wp2_with fail
  refine FA.out.mono ?_; rintro e w1 ⟨rfl, hb1⟩
  have HB1 := Lib.hid hb1
  clear FA hb1
  go_wp2_with fail
  refine (FL.out w1 HB1.out).mono ?_; rintro e w2 ⟨u, rfl, hu, hb⟩
  have HB2 := Lib.hid (bcall HB1.out hb)
  obtain ⟨pu, cu, rfl, iu⟩ := hu.form
  rw [cps_len]
  have IU2 := Lib.hid iu
  obtain ⟨k0, hk0⟩ : ∃ k0, sent n ls s = k0 := ⟨_, rfl⟩
  rw [hk0] at HLE ⊢
  have HK0 := Lib.hid hk0
  clear hu iu hb FL HB1 hk0
  go_wp2_with fail
  refine (FR.out w2 HB2.out).mono ?_; rintro e w3 ⟨uf, vf, rfl, huf, hvf, hb⟩
  have HB3 := Lib.hid (bcall HB2.out hb)
  obtain ⟨pf, cf, rfl, iff_⟩ := huf
  obtain ⟨ph, ch, rfl, ih⟩ := hvf
  rw [rw1_len, rw1_len]
  have IU := Lib.hid (IU2.out.below hb)
  obtain ⟨bu, ou, hpu, hbu, hcu⟩ := IU.out.2.2.2 (by rw [cps_len]; omega)
  obtain ⟨bf, of, hpf, hbf, hcf⟩ := iff_.2.2.2 (by rw [rw1_len]; omega)
  subst hpu; subst hpf
  have CU := Lib.hid (fun W (hW : Below w3.heap.size w3 W) j (hj : j < n) => (show W.cell? ⟨bu, ou + j, none⟩ = some (.int .i64 ((copies n ls s j : Nat) : Int)) from by
    rw [hW.cell (p := ⟨bu, ou + j, none⟩) hbu, hcu j (by rw [cps_len]; exact hj), cps_get _ _ hj]))
  have CF := Lib.hid (fun W (hW : Below w3.heap.size w3 W) j (hj : j < n) => (show W.cell? ⟨bf, of + j, none⟩ = some (.int .i64 (ds ls s j)) from by
    rw [hW.cell (p := ⟨bf, of + j, none⟩) hbf, hcf j (by rw [rw1_len]; exact hj), rw1_get _ _ hj]))
  have hcapu : n ≤ cu := by have := IU.out.1; rwa [cps_len] at this
  have hcapf : n ≤ cf := by have := iff_.1; rwa [rw1_len] at this
  clear hb hbu hcu hbf hcf iff_ ih HB2 IU2 FR
  go_wp2_with fail
  go_loopw [13, 14] (fun qv iv wr => ∃ i : Nat, i ≤ n ∧ iv = .int .i64 i ∧ qv = .int .i64 ((pairs ls i : Nat) : Int) ∧ Hid (Below w3.heap.size w3 wr)) (fun _ i _ => n - (intOf i).toNat)
  case atStart => exact ⟨0, Nat.zero_le _, rfl, rfl, Lib.hid (brefl _)⟩
  case round =>
    obtain ⟨i, hin, rfl, rfl, HR⟩ := hrel
    by_cases hlt : i < n
    · have v0 : decide ((i : Int) < (n : Int)) = true := decide_eq_true (by omega)
      have v1 : (i : Int) < (n : Int) := by omega
      have ci := CU.out wr HR.out i hlt
      have fi := CF.out wr HR.out i hlt
      have HRD := Lib.hid (fun q => bdrewN HR.out q)
      have HPN := Lib.hid (pairs_next ls i)
      have hp64 := pairs_le ls i (by omega)
      obtain ⟨q0, hq0⟩ : ∃ q0, pairs ls i = q0 := ⟨_, rfl⟩
      rw [hq0] at HPN hp64 ⊢
      clear hq0
      have t1 : (((i : Int) != (s : Int)) = false) ∨ (((i : Int) != (s : Int)) = true ∧ decide (((copies n ls s i : Nat) : Int) > 0) = decide (ds ls s i < 1000)) := by
        by_cases e : i = s
        · exact .inl (by rw [e]; simp)
        · refine .inr ⟨by rw [bne_iff_ne]; omega, ?_⟩
          have h1 := copies_pos HG.out (s := s) e
          have h2 := ds_top HG.out s i
          rw [ds_sym HG.out i s] at h1
          rw [decide_eq_decide]
          omega
      obtain ⟨x, hx⟩ : ∃ x, ((copies n ls s i : Nat) : Int) = x := ⟨_, rfl⟩
      obtain ⟨y, hy⟩ : ∃ y, ds ls s i = y := ⟨_, rfl⟩
      rw [hx, hy] at t1
      rw [hx] at ci
      rw [hy] at fi
      clear hx hy
      have INNER : ∀ (wa : World), Below w3.heap.size w3 wa → True := fun _ _ => trivial
      rcases t1 with t1 | ⟨t1, t2⟩
      all_goals try (obtain ⟨bb, hbb⟩ : ∃ bb, decide (y < 1000) = bb := ⟨_, rfl⟩)
      all_goals try rw [hbb] at t2
      all_goals try (have t3 : (bb != bb) = false := by simp)
      all_goals
        clear INNER
        go_wp2_with fail
        go_quiet (fail)
        go_wp2_with fail
        clear ci fi
        obtain ⟨wa, hwa⟩ : ∃ wa, wa = wr.drewN nq := ⟨_, rfl⟩
        have HRA := Lib.hid (show Below w3.heap.size w3 wa from by rw [hwa]; exact HRD.out nq)
        rw [← hwa]
        clear hwa HRD HR
        go_loopw [13, 15] (fun qv kv wk => ∃ k : Nat, k ≤ i ∧ kv = .int .i64 k ∧ qv = .int .i64 ((q0 + pk ls i k : Nat) : Int) ∧ wk = wa) (fun _ v _ => i - (intOf v).toNat)
        case atStart => exact ⟨0, Nat.zero_le _, rfl, by first | rfl | simp [pk, sm], by first | rfl | trivial⟩
        case round =>
          obtain ⟨k, hk, rfl, rfl, rfl⟩ := hrel
          by_cases hlk : k < i
          · have v2 : decide ((k : Int) < (i : Int)) = true := decide_eq_true (by omega)
            have C1 := Lib.hid (RC.out wr (bcall HB3.out HRA.out) i k)
            change Hid (Calls _ _ _ _ fun e w' => e = .returned (.int .i64 (co ls i k)) ∧ w' = wr) at C1
            have hpl := pk_le ls i k
            by_cases hco : co ls i k ≠ 1000
            · have hcf := (co_few HG.out hco).2.1
              have v3 : decide (co ls i k < 1000) = true := decide_eq_true (by omega)
              have HPY := Lib.hid (pk_yes hco)
              obtain ⟨r, hr⟩ : ∃ r, pk ls i k = r := ⟨_, rfl⟩
              rw [hr] at HPY hpl ⊢
              clear hco hcf hr
              generalize co ls i k = y2 at C1 v3
              have hw9 : IntKind.i64.wrap (((q0 + r : Nat) : Int) + 1) = ((q0 + r : Nat) : Int) + 1 := wrap_in (by omega)
              go_wp2_with fail
              refine C1.out.mono ?_; rintro e w9 ⟨rfl, hw⟩
              rw [hw]
              clear hw
              go_wp2_with fail
              go_roundw
              case rel => exact ⟨k + 1, by omega, by first | rfl | go_num, by rw [HPY.out]; first | rfl | go_num, by first | trivial | rfl⟩
              case measure => simp [intOf]; omega
            · have v3 : decide (co ls i k < 1000) = false := decide_eq_false (by omega)
              have HPY := Lib.hid (pk_no hco)
              clear hco
              generalize co ls i k = y2 at C1 v3
              go_wp2_with fail
              refine C1.out.mono ?_; rintro e w9 ⟨rfl, hw⟩
              rw [hw]
              clear hw
              go_wp2_with fail
              go_roundw
              case rel => exact ⟨k + 1, by omega, by first | rfl | go_num, by rw [HPY.out]; first | rfl | simp, by first | trivial | rfl⟩
              case measure => simp [intOf]; omega
          · obtain rfl : k = i := by omega
            have v2 : decide ((k : Int) < (k : Int)) = false := decide_eq_false (by omega)
            rw [← HPN.out]
            have HQ1 := Lib.hid HPN.out
            clear HPN
            obtain ⟨q1, hq1⟩ : ∃ q1, pairs ls (k + 1) = q1 := ⟨_, rfl⟩
            rw [hq1]
            have HQ2 := Lib.hid hq1
            clear hq1
            go_wp2_with fail
            go_roundw
            case rel => exact ⟨k + 1, by omega, by first | rfl | go_num, by rw [HQ2.out], HRA⟩
            case measure => simp [intOf]; omega
    · obtain rfl : i = n := by omega
      have v0 : decide ((i : Int) < (i : Int)) = false := decide_eq_false (by omega)
      have hp64 := pairs_le ls i (by omega)
      obtain ⟨q0, hq0⟩ : ∃ q0, pairs ls i = q0 := ⟨_, rfl⟩
      rw [hq0] at hp64 HLE ⊢
      have hle := HLE.out
      have SM := Lib.hid (Aimd.sums_any (some ⟨bu, ou, none⟩) cu i (cps i (copies i ls s)) wr (by rw [cps_len]) (IU.out.below HR.out) (by rw [cps_len]; omega) (fun x hx => by
        unfold cps at hx
        obtain ⟨v, hv, rfl⟩ := List.mem_map.1 hx
        have h1 : copies i ls s v ≤ 8 := by
          have := sm_top (f := fun p => if gives ls s p v then 1 else 0) (b := 1) i (fun j _ => by split <;> omega)
          unfold copies
          omega
        omega))
      have hsum : (cps i (copies i ls s)).sum = ((k0 : Nat) : Int) := by rw [cps_sum, ← HK0.out]; rfl
      rw [hsum] at SM
      have e5 : ((k0 : Int) == (k0 : Int)) = true := by simp
      have hw9 : IntKind.i64.wrap (2 * (q0 : Int)) = 2 * (q0 : Int) := wrap_in (by omega)
      have e6 : decide ((k0 : Int) ≤ 2 * (q0 : Int)) = true := decide_eq_true (by omega)
      have HBF := Lib.hid (bcall HB3.out HR.out)
      clear hq0 hsum CU CF IU HLE
      go_wp2_with fail
      refine SM.out.mono ?_; rintro e w9 ⟨rfl, hw⟩
      rw [hw]
      clear hw SM
      go_wp2_with fail
      go_ret
      exact ⟨by first | rfl | simp, HBF.out⟩
theorem law_any (n s : Int) (p : Option Addr) (m cap : Nat) (ls : List Lk) (w : World) (hm : m = ls.length) (hi : CI layL w p cap ls) (hs : (Lit.int .i64 s).wf = true) : Law n p m cap s w := by
  by_cases h : wrong n ls [s] = 0
  · obtain ⟨N, S, rfl, rfl, g, hS⟩ := wrong_good h
    exact law_good N S p m cap ls w hm hi g hS
  · exact law_bad n s p m cap ls w hm hi hs _ rfl h

theorem reads : Try.f3.params.toList.all (fun t => Try.prog.readableRec t && decide (t < Try.prog.types.size)) = true := by kernel_rfl

theorem contract (H : Type) (enc : TypeId × Value → H) (W : World) (base : Nat) (args : Array Value) (ds gs : List (DataW H)) (before : List MemPlace)
    (hval : ∀ (j : Nat) t v, Try.f3.params[j]? = some t → args[j]? = some v → Value.okWide Try.prog W .any base t v)
    (hW : DataW.Whole enc Try.prog Try.f3.params.toList Rows.rpfAllSpec.vars false W args.toList ds gs before) :
    Calls Try.prog 3 args W fun e W' => ∃ v, e = .returned v ∧ Rows.rpfAllSpec.post enc Try.prog Try.f3 false true false false W args v W' := by
  have hW' := hW
  obtain ⟨p, q, hA0, hV, rfl, hfz, hnd⟩ := hW
  have hA : DataW.TrodAll enc Try.prog W 0 (fun _ => true) true Try.f3.params.toList args.toList ds p := hA0
  have hlt := hA.lt
  rw [Try.params3] at hA hval
  obtain ⟨v0, vs0, d0, ds0, p0, q0, hargs, rfl, rfl, h0, r0⟩ := trodAll_cons hA
  obtain ⟨v1, vs1, d1, ds1, p1, q1, hvs1, rfl, rfl, h1, r1⟩ := trodAll_cons r0
  obtain ⟨v2, vs2, d2, ds2, p2, q2, hvs2, rfl, rfl, h2, r2⟩ := trodAll_cons r1
  obtain ⟨hvsn, rfl, rfl⟩ := trodAll_nil r2
  simp only [hvsn, hvs2, hvs1] at hargs
  obtain rfl : args = #[v0, v1, v2] := by cases args; simp_all
  obtain ⟨rfl, rfl⟩ := trodVars_none hV
  clear hA0
  obtain ⟨a0, rfl, rfl, rfl, w0⟩ := open_int Try.underlying3 (hval 0 3 v0 rfl rfl) h0
  have b0 := bounds_int w0
  obtain ⟨p1a, cap1, l1, rfl, i1, e1⟩ := Go.Proofs.Ytedhippamfioeaa.Vector.open_links (hval 1 22 v1 rfl rfl) h1 (fun x hx => hlt x (by simp [hx]))
  obtain ⟨a2, rfl, rfl, rfl, w2⟩ := open_int Try.underlying3 (hval 2 3 v2 rfl rfl) h2
  have b2 := bounds_int w2
  exact law_post 4 laid reads rfl Try.underlying4 rfl hW' ⟨rfl, rfl, rfl⟩ (law_any a0 a2 p1a _ cap1 l1 W rfl i1 w2)

set_option maxRecDepth 100000 in
theorem lifted (os : Os) (started : os.Started) (H : Type) (enc : TypeId × Value → H) :
    ReturnsInHanded {} Try.checked os 3 .any (Rows.rpfAllSpec.pre6 enc Try.prog Try.f3 Rows.rpfAllRow.domain false) (Rows.rpfAllSpec.post enc Try.prog Try.f3 false true false false) := by
  refine returnsInHanded_of_change (C := Try.checked) own started (by kernel_rfl) Try.func3
    (ChangeSpec.witness6 (enc := enc) (C := Try.checked) false ⟨#[], #[.int .i64 0, .slice none 0 0, .int .i64 0], []⟩ 8 (by kernel_rfl) (by kernel_rfl) (by kernel_rfl) (by kernel_rfl)) ?_
  intro W base args ds gs before hval hW _ _
  exact contract H enc W base args ds gs before hval hW

theorem proved : Rows.RpfAllSaid :=
  OpenClaim.holds_of_wide 3 Try.f3 rfl rfl rfl rfl rfl rfl rfl ⟨rfl, rfl, rfl, rfl, rfl⟩ rfl rfl rfl rfl rfl (by kernel_rfl) Try.func3 (by kernel_rfl)
    (of_decide_eq_true (by kernel_rfl)) (by unfold Func.isWrapper; first | (rw [if_pos (by decide +kernel)]; kernel_rfl) | (rw [if_neg (by decide +kernel)]; exact ⟨rfl, rfl⟩))
    (fun os started H enc _ => lifted os started H enc)
end Go.Proofs.Ytedhippamfioeaa.RpfAllL
