/- RpfKids: with kids alone each one that can be reached has just one that tells it: for every input. No condition. -/
import Derived.Test.YtedhippamfioeaaRpfFact
import Derived.Test.YtedhippamfioeaaIn3
import Derived.BigQuiet
import Derived.Test.YtedhippamfioeaaOwnI
namespace Go.Proofs.Ytedhippamfioeaa.RpfKidsL
open Go.ChangeShapes Go.WideShapes Go.ChangeAt Go.RowKit Go.Proofs.Ytedhippamfioeaa.Kit Go.Proofs.Ytedhippamfioeaa.App Go.Proofs.Ytedhippamfioeaa.Cells Go.Proofs.Ytedhippamfioeaa.Err Go.Proofs.Ytedhippamfioeaa.Vector Go.Proofs.Ytedhippamfioeaa.Spf Go.Proofs.Ytedhippamfioeaa.Stp Go.Proofs.Ytedhippamfioeaa.Rpf
set_option linter.unusedVariables false
set_option maxRecDepth 20000
set_option maxHeartbeats 4000000
abbrev Law (n : Int) (p : Option Addr) (m cap : Nat) (s : Int) (w : World) : Prop := Calls Try.prog 5 #[.int .i64 n, .slice p m cap, .int .i64 s] w fun e w' => e = .returned (.bool true) ∧ Below w.heap.size w w'
theorem kids_sorted (n : Nat) (ls : List Lk) (s : Nat) (x : Int) : (kids n ls s x).Pairwise (· < ·) := List.Pairwise.filter _ List.pairwise_lt_range
theorem kid_lt {L : List Nat} (h : L.Pairwise (· < ·)) {i j : Nat} (hij : i < j) (hj : j < L.length) : L[i]?.getD 0 < L[j]?.getD 0 := by
  rw [List.getElem?_eq_getElem (by omega), List.getElem?_eq_getElem hj]
  exact List.pairwise_iff_getElem.1 h i j (by omega) hj hij
theorem wf_20 {x : Int} (h : 0 ≤ x ∧ x ≤ 1000) : (Lit.int .i64 x).wf = true := by
  simp [Lit.wf, IntKind.min, IntKind.max, IntKind.signed, IntKind.bits]; omega
/-- Whether u is among the first k. -/
def inn (L : List Nat) (k u : Nat) : Nat := if u ∈ L.take k then 1 else 0
theorem inn_le (L : List Nat) (k u : Nat) : inn L k u ≤ 1 := by unfold inn; split <;> omega
theorem inn_zero (L : List Nat) (u : Nat) : inn L 0 u = 0 := by simp [inn]
theorem inn_next {L : List Nat} (h : L.Pairwise (· < ·)) {k : Nat} (hk : k < L.length) : inn L (k + 1) (L[k]?.getD 0) = inn L k (L[k]?.getD 0) + 1 ∧ ∀ u, u ≠ L[k]?.getD 0 → inn L (k + 1) u = inn L k u := by
  have e : L.take (k + 1) = L.take k ++ [L[k]?.getD 0] := by
    rw [List.getElem?_eq_getElem hk, Option.getD_some, List.take_succ_eq_append_getElem hk]
  unfold inn
  rw [e]
  refine ⟨?_, fun u hu => ?_⟩
  · rw [if_pos (by simp), if_neg (fun hm => ?_)]
    obtain ⟨i, hi, hx⟩ := List.mem_iff_getElem.1 hm
    rw [List.length_take] at hi
    have h1 := kid_lt h (i := i) (j := k) (by omega) hk
    rw [List.getElem_take] at hx
    rw [List.getElem?_eq_getElem (show i < L.length by omega), Option.getD_some, hx] at h1
    omega
  · by_cases hm : u ∈ L.take k
    · rw [if_pos hm, if_pos (by simp [hm])]
    · rw [if_neg hm, if_neg (by simp [hm, hu])]
theorem inn_all (L : List Nat) (u : Nat) : inn L L.length u = if u ∈ L then 1 else 0 := by unfold inn; rw [List.take_length]
/-- How many of those below k tell v. -/
noncomputable def tl (ls : List Lk) (s k v : Nat) : Nat := sm (fun p => if hop ls v s = (p : Int) then 1 else 0) k
theorem tl_le (ls : List Lk) (s k v : Nat) : tl ls s k v ≤ k := by
  have := sm_top (f := fun p => if hop ls v s = ((p : Nat) : Int) then 1 else 0) (b := 1) k (fun j _ => by split <;> omega)
  rwa [Nat.mul_one] at this
theorem tl_next {n : Nat} {ls : List Lk} (g : Vector.Good n ls) {s k v : Nat} (hv : v < n) : tl ls s (k + 1) v = tl ls s k v + inn (kids n ls s (k : Int)) (kids n ls s (k : Int)).length v := by
  unfold tl
  rw [sm, inn_all]
  by_cases h : hop ls v s = (k : Int)
  · rw [if_pos h, if_pos (mem_kids.2 ⟨hv, (kids_far g h).2.1, h⟩)]; try omega
  · rw [if_neg h, if_neg (fun h2 => h (mem_kids.1 h2).2.2)]; try omega
theorem ints_kid {L : List Nat} {k : Nat} (hk : k < L.length) : (L.map fun v : Nat => (v : Int))[k]?.getD 0 = ((L[k]?.getD 0 : Nat) : Int) := by
  rw [List.getElem?_map, List.getElem?_eq_getElem hk]; rfl
theorem law_bad (n s : Int) (p : Option Addr) (m cap : Nat) (ls : List Lk) (w : World) (hm : m = ls.length) (hi : CI layL w p cap ls) (hs : (Lit.int .i64 s).wf = true) (c : Int) (hc : wrong n ls [s] = c) (h0 : c ≠ 0) : Law n p m cap s w := by
  have hlm := hi.len_le
  rw [← hm] at hlm
  have FR := Lib.hid (fun W (hW : Below w.heap.size w W) => from_bad n s p cap m ls W hm (hi.below hW) hs c hc h0)
  rw [er_ne h0] at FR
  clear hm hi hs hc h0
  have FA := Lib.hid (Rpf.fact_any w)
  unfold Law
  go_enter Try.func5, Try.ntmps5
  go_wp2_with fail
  refine FA.out.mono ?_; rintro e w1 ⟨rfl, hb1⟩
  have HB1 := Lib.hid hb1
  clear FA hb1
  go_wp2_with fail
  refine (FR.out w1 HB1.out).mono ?_; rintro e w2 ⟨rfl, hb⟩
  have HB2 := Lib.hid (bcall HB1.out hb)
  clear FR HB1 hb
  go_wp2_with fail
  go_ret
  exact ⟨by first | rfl | simp, HB2.out⟩
theorem law_good (n s : Nat) (p : Option Addr) (m cap : Nat) (ls : List Lk) (w : World) (hm : m = ls.length) (hi : CI layL w p cap ls) (g : Vector.Good n ls) (hs : s < n) : Law n p m cap s w := by
  have hn8 := g.up
  have hn1 := g.lo
  have hlm := hi.len_le
  rw [← hm] at hlm
  have FR := Lib.hid (fun W (hW : Below w.heap.size w W) => from_good n s p cap m ls W hm (hi.below hW) g hs)
  have KR := Lib.hid (fun W (hW : Below w.heap.size w W) a (ha : a < n) => kids_good n s a p cap m ls W hm (hi.below hW) g hs ha)
  have IN := Lib.hid (fun (v : Nat) (hv : v < n) W => Drr.in_any (v : Int) 0 ((n : Int) - 1) W true (in_true ⟨by omega, by omega⟩))
  have u0 : ((n : Int) != (n : Int)) = false := by simp
  have hw1 : IntKind.i64.wrap ((n : Int) - 1) = (n : Int) - 1 := wrap_in (n := (n : Int) - 1) ⟨by omega, by omega⟩
  have HG := Lib.hid g
  have HS := Lib.hid hs
  clear hm hi g hs
  have FA := Lib.hid (Rpf.fact_any w)
  unfold Law
  go_enter Try.func5, Try.ntmps5
  go_wp2_with fail
  refine FA.out.mono ?_; rintro e w1 ⟨rfl, hb1⟩
  have HB1 := Lib.hid hb1
  clear FA hb1
  go_wp2_with fail
  refine (FR.out w1 HB1.out).mono ?_; rintro e w2 ⟨uf, vf, rfl, huf, hvf, hb⟩
  have HB2 := Lib.hid (bcall HB1.out hb)
  obtain ⟨pf, cf, rfl, iff_⟩ := huf
  obtain ⟨ph, ch, rfl, ih⟩ := hvf
  rw [rw1_len, rw1_len]
  obtain ⟨bf, of, hpf, hbf, hcf⟩ := iff_.2.2.2 (by rw [rw1_len]; omega)
  subst hpf
  have CF := Lib.hid (fun W (hW : Below w2.heap.size w2 W) j (hj : j < n) => (show W.cell? ⟨bf, of + j, none⟩ = some (.int .i64 (ds ls s j)) from by
    rw [hW.cell (p := ⟨bf, of + j, none⟩) hbf, hcf j (by rw [rw1_len]; exact hj), rw1_get _ _ hj]))
  have hcapf : n ≤ cf := by have := iff_.1; rwa [rw1_len] at this
  obtain ⟨w3, hmk, ho3, hg3⟩ := made_ints w2 n (by omega)
  obtain ⟨G, hG⟩ : ∃ G, w2.heap.size = G := ⟨_, rfl⟩
  rw [hG] at hmk ho3
  have HB3 := Lib.hid (show Below w2.heap.size w2 w3 from (brefl w2).grown hg3 (Nat.le_refl _) (fun k hk => by cases hk))
  have HO3 := Lib.hid (show OwnI w3 G (.slice (some ⟨G, 0, none⟩) n n) (cps n (tl ls s 0)) from by
    rw [show cps n (tl ls s 0) = List.replicate n 0 from by rw [← cps_zero]; rfl]
    exact ho3)
  have HGG := Lib.hid hG
  clear hb hbf hcf iff_ ih HB1 FR ho3 hg3 hG
  go_wp2_with fail
  clear hmk
  go_loopw [12] (fun iv wr => ∃ a : Nat, a ≤ n ∧ iv = .int .i64 a ∧ Hid (OwnI wr G (.slice (some ⟨G, 0, none⟩) n n) (cps n (tl ls s a))) ∧ Hid (Below w2.heap.size w2 wr)) (fun i _ => n - (intOf i).toNat)
  case atStart => exact ⟨0, Nat.zero_le _, rfl, HO3, HB3⟩
  case round =>
    obtain ⟨a, han, rfl, HO, HR⟩ := hrel
    clear HO3
    by_cases hlt : a < n
    · have v0 : decide ((a : Int) < (n : Int)) = true := decide_eq_true (by omega)
      have v1 : (a : Int) < (n : Int) := by omega
      have KA := Lib.hid (KR.out wr (bcall HB2.out HR.out) a hlt)
      have HTL := Lib.hid (fun v (hv : v < n) => tl_next HG.out (s := s) (k := a) hv)
      have HTE := Lib.hid (tl_le ls s a)
      have HSO := Lib.hid (kids_sorted n ls s (a : Int))
      have HKF := Lib.hid (fun v (hv : v ∈ kids n ls s (a : Int)) => kids_far HG.out (mem_kids.1 hv).2.2)
      obtain ⟨L, hL⟩ : ∃ L, kids n ls s (a : Int) = L := ⟨_, rfl⟩
      rw [hL] at KA HTL HSO HKF
      have HLL := Lib.hid (show L.length ≤ 8 from by
        rw [← hL]
        unfold kids
        exact Nat.le_trans (List.length_filter_le _ _) (by rw [List.length_range]; exact hn8))
      clear hL
      go_wp2_with fail
      refine KA.out.mono ?_; rintro e w4 ⟨vl, rfl, hol, hb⟩
      obtain ⟨ql, cl, rfl, _⟩ := hol.form
      rw [List.length_map]
      obtain ⟨q, hq⟩ : ∃ q, L.length = q := ⟨_, rfl⟩
      rw [List.length_map, hq] at hol
      rw [hq]
      have HQ := Lib.hid hq
      have HO4 := Lib.hid (HO.out.below hb)
      have HR4 := Lib.hid (bcall HR.out hb)
      have HL4 := Lib.hid (own_mono hol (show G + 1 ≤ wr.heap.size from by have := (HO.out.lt G rfl).2; omega))
      clear hol hb KA HO HR hq
      go_wp2_with fail
      go_loopw [15] (fun kv wk => ∃ k : Nat, k ≤ q ∧ kv = .int .i64 k ∧ Hid (OwnI wk G (.slice (some ⟨G, 0, none⟩) n n) (cps n fun v => tl ls s a v + inn L k v)) ∧ Hid (OwnI wk (G + 1) (.slice ql q cl) (L.map fun v : Nat => (v : Int))) ∧ Hid (Below w2.heap.size w2 wk)) (fun v _ => q - (intOf v).toNat)
      case atStart => exact ⟨0, Nat.zero_le _, rfl, Lib.hid (by rw [show (fun v => tl ls s a v + inn L 0 v) = tl ls s a from funext fun v => by rw [inn_zero]; rfl]; exact HO4.out), HL4, HR4⟩
      case round =>
        obtain ⟨k, hkq, rfl, HOK, HLK, HRK⟩ := hrel
        clear HO4 HL4 HR4
        by_cases hlk : k < q
        · have v2 : decide ((k : Int) < (q : Int)) = true := decide_eq_true (by omega)
          have v3 : (k : Int) < (q : Int) := by omega
          have hkl : k < L.length := by rw [HQ.out]; exact hlk
          have hq8 : q ≤ 8 := by rw [← HQ.out]; exact HLL.out
          obtain ⟨gl, c9, e9, hgl, _, hcl9, _⟩ := own_pos HLK.out (by rw [List.length_map]; omega)
          rw [List.length_map, HQ.out] at e9
          injection e9 with e91 _ e92
          subst e91; subst e92
          have HNE := Lib.hid (show gl ≠ G from by omega)
          have HLC := Lib.hid (fun j (hj : j < L.length) => (show wr.cell? ⟨gl, j, none⟩ = some (.int .i64 ((L[j]?.getD 0 : Nat) : Int)) from by
            rw [own_cell HLK.out j (by rw [List.length_map]; exact hj), ints_kid hj]))
          have x0 := HLC.out k hkl
          have hmem : L[k]?.getD 0 ∈ L := by rw [List.getElem?_eq_getElem hkl]; exact List.getElem_mem hkl
          obtain ⟨hf1, _, hvn, _⟩ := HKF.out _ hmem
          have HIX := Lib.hid (inn_next HSO.out hkl)
          have HPR := Lib.hid (fun j (hj : j + 1 = k) => kid_lt HSO.out (i := j) (j := k) (by omega) hkl)
          obtain ⟨v, hv⟩ : ∃ v, L[k]?.getD 0 = v := ⟨_, rfl⟩
          rw [hv] at x0 hf1 hvn HIX HPR
          have hvn' : (v : Int) < (n : Int) := by omega
          rw [ds_sym HG.out a s, ds_sym HG.out v s] at hf1
          have f0 := CF.out wr HRK.out v hvn
          have f1 := CF.out wr HRK.out a hlt
          obtain ⟨y, hy⟩ : ∃ y, ds ls s v = y := ⟨_, rfl⟩
          obtain ⟨y2, hy2⟩ : ∃ y, ds ls s a = y := ⟨_, rfl⟩
          rw [hy] at f0 hf1
          rw [hy2] at f1 hf1
          have t1 : decide (y ≤ y2) = false := decide_eq_false (by omega)
          have INV := Lib.hid (fun W => IN.out v hvn W)
          have HTV := Lib.hid (show tl ls s a v + inn L k v ≤ 20 from by have h1 := HTE.out v; have h2 := inn_le L k v; omega)
          have HSET := Lib.hid (fun W (hW : OwnI W G (.slice (some ⟨G, 0, none⟩) n n) (cps n fun v => tl ls s a v + inn L k v)) => (show OwnI (W.setCell ⟨G, v, none⟩ (.int .i64 (((tl ls s a v + inn L k v : Nat) : Int) + 1))) G (.slice (some ⟨G, 0, none⟩) n n) (cps n fun v => tl ls s a v + inn L (k + 1) v) from by
            have h1 := own_set hW v (((tl ls s a v + inn L k v : Nat) : Int) + 1) (wf_20 (by have := HTV.out; omega))
            rwa [cps_set (f' := fun v => tl ls s a v + inn L (k + 1) v) hvn (by show tl ls s a v + inn L (k + 1) v = tl ls s a v + inn L k v + 1; rw [HIX.out.1]; omega) (fun u hu => by show tl ls s a u + inn L (k + 1) u = tl ls s a u + inn L k u; rw [HIX.out.2 u hu])] at h1))
          have HLS := Lib.hid (fun W (hW : OwnI W (G + 1) (.slice (some ⟨gl, 0, none⟩) q cl) (L.map fun v : Nat => (v : Int))) x => (show OwnI (W.setCell ⟨G, v, none⟩ x) (G + 1) (.slice (some ⟨gl, 0, none⟩) q cl) (L.map fun v : Nat => (v : Int)) from
            hW.more (set_grown W G v x) (.inr (fun e => by simp [Value.ownBlock] at e; exact HNE.out e))))
          have HBS := Lib.hid (fun W (hW : Below w2.heap.size w2 W) x => below_set hW G v x (by rw [HGG.out]; exact Nat.le_refl _))
          have HOD := Lib.hid (fun m => (show OwnI (wr.drewN m) G (.slice (some ⟨G, 0, none⟩) n n) (cps n fun v => tl ls s a v + inn L k v) from HOK.out))
          have HLD := Lib.hid (fun m => (show OwnI (wr.drewN m) (G + 1) (.slice (some ⟨gl, 0, none⟩) q cl) (L.map fun v : Nat => (v : Int)) from HLK.out))
          have HRD := Lib.hid (fun m => bdrewN HRK.out m)
          have d0 := own_cell HOK.out v (by rw [cps_len]; exact hvn)
          rw [cps_get _ _ hvn] at d0
          have d1 := own_fz HOK.out v
          obtain ⟨r, hr⟩ : ∃ r, tl ls s a v + inn L k v = r := ⟨_, rfl⟩
          rw [hr] at HSET HTV d0
          have hr20 := HTV.out
          have hw9 : IntKind.i64.wrap ((r : Int) + 1) = (r : Int) + 1 := wrap_in (by omega)
          clear hmem hf1 hv hy hy2 hr hkl HTV HIX
          by_cases hk0 : k = 0
          · subst hk0
            have t2 : decide (((0 : Nat) : Int) > 0) = false := by decide
            clear HPR
            go_wp2_with fail
            go_quiet ((go_at_call 13; refine Calls.quiet_of_same (INV.out _)))
            go_wp2_with fail
            go_region
            all_goals
             have HO9 := Lib.hid (HSET.out _ (HOD.out (nq + 1)))
             have HL9 := Lib.hid (HLS.out _ (HLD.out (nq + 1)) (.int .i64 ((r : Int) + 1)))
             have HR9 := Lib.hid (HBS.out _ (HRD.out (nq + 1)) (.int .i64 ((r : Int) + 1)))
             go_wp2_with fail
             go_roundw
             case rel => exact ⟨0 + 1, by omega, by first | rfl | go_num, HO9, HL9, HR9⟩
             case measure => simp [intOf] <;> omega
          · obtain ⟨j, rfl⟩ : ∃ j, k = j + 1 := ⟨k - 1, by omega⟩
            have t2 : decide (((j + 1 : Nat) : Int) > 0) = true := decide_eq_true (by omega)
            have x1 := HLC.out j (by rw [HQ.out]; omega)
            have hlt9 := HPR.out j rfl
            obtain ⟨u, hu⟩ : ∃ u, L[j]?.getD 0 = u := ⟨_, rfl⟩
            rw [hu] at x1 hlt9
            have t3 : decide ((v : Int) ≤ (u : Int)) = false := decide_eq_false (by omega)
            have t3n : decide (v ≤ u) = false := decide_eq_false (by omega)
            have v4 : (j : Int) < (q : Int) := by omega
            have hw8 : IntKind.i64.wrap (((j + 1 : Nat) : Int) - 1) = (j : Int) := by rw [wrap_in (by omega)]; omega
            clear HPR hu hlt9 hk0
            go_wp2_with fail
            go_quiet ((go_at_call 13; refine Calls.quiet_of_same (INV.out _)))
            go_wp2_with fail
            go_region
            all_goals
             have HO9 := Lib.hid (HSET.out _ (HOD.out (nq + 1)))
             have HL9 := Lib.hid (HLS.out _ (HLD.out (nq + 1)) (.int .i64 ((r : Int) + 1)))
             have HR9 := Lib.hid (HBS.out _ (HRD.out (nq + 1)) (.int .i64 ((r : Int) + 1)))
             go_wp2_with fail
             go_roundw
             case rel => exact ⟨j + 1 + 1, by omega, by first | rfl | go_num, HO9, HL9, HR9⟩
             case measure => simp [intOf] <;> omega
        · obtain rfl : k = q := by omega
          have v2 : decide ((k : Int) < (k : Int)) = false := decide_eq_false (by omega)
          have HO5 := Lib.hid (show OwnI wr G (.slice (some ⟨G, 0, none⟩) n n) (cps n (tl ls s (a + 1))) from by
            rw [cps_congr (f' := fun v => tl ls s a v + inn L k v) (fun v hv => by rw [HTL.out v hv, HQ.out])]
            exact HOK.out)
          go_wp2_with fail
          go_roundw
          case rel => exact ⟨a + 1, by omega, by first | rfl | go_num, HO5, HRK⟩
          case measure => simp [intOf]; omega
    · obtain rfl : a = n := by omega
      have v0 : decide ((a : Int) < (a : Int)) = false := decide_eq_false (by omega)
      have HTO := Lib.hid (fun v => (show tl ls s a v = if v ≠ s ∧ ds ls v s ≠ 1000 then 1 else 0 from told_one HG.out))
      have HTC := Lib.hid (fun W (hW : OwnI W G (.slice (some ⟨G, 0, none⟩) a a) (cps a (tl ls s a))) j (hj : j < a) => (show W.cell? ⟨G, j, none⟩ = some (.int .i64 ((tl ls s a j : Nat) : Int)) from by
        rw [own_cell hW j (by rw [cps_len]; exact hj), cps_get _ _ hj]))
      go_wp2_with fail
      clear v0
      obtain ⟨w5, hw5⟩ : ∃ z, z = wr := ⟨wr, rfl⟩
      rw [← hw5] at HO HR ⊢
      clear hw5 wr hlt
      go_loopw [16] (fun iv wr => ∃ i : Nat, i ≤ a ∧ iv = .int .i64 i ∧ wr = w5) (fun i _ => a - (intOf i).toNat)
      case atStart => exact ⟨0, Nat.zero_le _, rfl, rfl⟩
      case round =>
        obtain ⟨i, hin, rfl, rfl⟩ := hrel
        by_cases hlt : i < a
        · have v0 : decide ((i : Int) < (a : Int)) = true := decide_eq_true (by omega)
          have v1 : (i : Int) < (a : Int) := by omega
          have ci := HTC.out wr HO.out i hlt
          have fi := CF.out wr HR.out i hlt
          rw [HTO.out i, ds_sym HG.out i s] at ci
          by_cases h1 : i = s
          · have t1 : ((i : Int) != (s : Int)) = false := by rw [h1]; simp
            rw [if_neg (fun h => h.1 h1)] at ci
            generalize ds ls s i = y at fi
            clear h1
            go_wp2_with fail
            go_roundw
            case rel => exact ⟨i + 1, by omega, by first | rfl | go_num, by first | trivial | rfl⟩
            case measure => simp [intOf]; omega
          · have t1 : ((i : Int) != (s : Int)) = true := by rw [bne_iff_ne]; omega
            have htop := ds_top HG.out s i
            by_cases h2 : ds ls s i < 1000
            · have t2 : decide (ds ls s i < 1000) = true := decide_eq_true h2
              rw [if_pos ⟨h1, by omega⟩] at ci
              generalize ds ls s i = y at fi t2
              clear h1 h2 htop
              go_wp2_with fail
              go_roundw
              case rel => exact ⟨i + 1, by omega, by first | rfl | go_num, by first | trivial | rfl⟩
              case measure => simp [intOf]; omega
            · have t2 : decide (ds ls s i < 1000) = false := decide_eq_false h2
              rw [if_neg (fun h => h.2 (by omega))] at ci
              generalize ds ls s i = y at fi t2
              clear h1 h2 htop
              go_wp2_with fail
              go_roundw
              case rel => exact ⟨i + 1, by omega, by first | rfl | go_num, by first | trivial | rfl⟩
              case measure => simp [intOf]; omega
        · obtain rfl : i = a := by omega
          have v0 : decide ((i : Int) < (i : Int)) = false := decide_eq_false (by omega)
          have HBF := Lib.hid (bcall HB2.out HR.out)
          go_wp2_with fail
          go_ret
          exact ⟨by first | rfl | simp, HBF.out⟩
theorem law_any (n s : Int) (p : Option Addr) (m cap : Nat) (ls : List Lk) (w : World) (hm : m = ls.length) (hi : CI layL w p cap ls) (hs : (Lit.int .i64 s).wf = true) : Law n p m cap s w := by
  by_cases h : wrong n ls [s] = 0
  · obtain ⟨N, S, rfl, rfl, g, hS⟩ := wrong_good h
    exact law_good N S p m cap ls w hm hi g hS
  · exact law_bad n s p m cap ls w hm hi hs _ rfl h

theorem reads : Try.f5.params.toList.all (fun t => Try.prog.readableRec t && decide (t < Try.prog.types.size)) = true := by kernel_rfl

theorem contract (H : Type) (enc : TypeId × Value → H) (W : World) (base : Nat) (args : Array Value) (ds gs : List (DataW H)) (before : List MemPlace)
    (hval : ∀ (j : Nat) t v, Try.f5.params[j]? = some t → args[j]? = some v → Value.okWide Try.prog W .any base t v)
    (hW : DataW.Whole enc Try.prog Try.f5.params.toList Rows.rpfKidsSpec.vars false W args.toList ds gs before) :
    Calls Try.prog 5 args W fun e W' => ∃ v, e = .returned v ∧ Rows.rpfKidsSpec.post enc Try.prog Try.f5 false true false false W args v W' := by
  have hW' := hW
  obtain ⟨p, q, hA0, hV, rfl, hfz, hnd⟩ := hW
  have hA : DataW.TrodAll enc Try.prog W 0 (fun _ => true) true Try.f5.params.toList args.toList ds p := hA0
  have hlt := hA.lt
  rw [Try.params5] at hA hval
  obtain ⟨v0, vs0, d0, ds0, p0, q0, hargs, rfl, rfl, h0, r0⟩ := trodAll_cons hA
  obtain ⟨v1, vs1, d1, ds1, p1, q1, hvs1, rfl, rfl, h1, r1⟩ := trodAll_cons r0
  obtain ⟨v2, vs2, d2, ds2, p2, q2, hvs2, rfl, rfl, h2, r2⟩ := trodAll_cons r1
  obtain ⟨hvsn, rfl, rfl⟩ := trodAll_nil r2
  simp only [hvsn, hvs2, hvs1] at hargs
  obtain rfl : args = #[v0, v1, v2] := by cases args; simp_all
  obtain ⟨rfl, rfl⟩ := trodVars_none hV
  clear hA0
  obtain ⟨a0, rfl, rfl, rfl, w0⟩ := open_int Try.underlying3 (hval 0 3 v0 rfl rfl) h0
  have b0 := bounds_int w0
  obtain ⟨p1a, cap1, l1, rfl, i1, e1⟩ := Go.Proofs.Ytedhippamfioeaa.Vector.open_links (hval 1 22 v1 rfl rfl) h1 (fun x hx => hlt x (by simp [hx]))
  obtain ⟨a2, rfl, rfl, rfl, w2⟩ := open_int Try.underlying3 (hval 2 3 v2 rfl rfl) h2
  have b2 := bounds_int w2
  exact law_post 4 laid reads rfl Try.underlying4 rfl hW' ⟨rfl, rfl, rfl⟩ (law_any a0 a2 p1a _ cap1 l1 W rfl i1 w2)

set_option maxRecDepth 100000 in
theorem lifted (os : Os) (started : os.Started) (H : Type) (enc : TypeId × Value → H) :
    ReturnsInHanded {} Try.checked os 5 .any (Rows.rpfKidsSpec.pre6 enc Try.prog Try.f5 Rows.rpfKidsRow.domain false) (Rows.rpfKidsSpec.post enc Try.prog Try.f5 false true false false) := by
  refine returnsInHanded_of_change (C := Try.checked) own started (by kernel_rfl) Try.func5
    (ChangeSpec.witness6 (enc := enc) (C := Try.checked) false ⟨#[], #[.int .i64 0, .slice none 0 0, .int .i64 0], []⟩ 8 (by kernel_rfl) (by kernel_rfl) (by kernel_rfl) (by kernel_rfl)) ?_
  intro W base args ds gs before hval hW _ _
  exact contract H enc W base args ds gs before hval hW

theorem proved : Rows.RpfKidsSaid :=
  OpenClaim.holds_of_wide 5 Try.f5 rfl rfl rfl rfl rfl rfl rfl ⟨rfl, rfl, rfl, rfl, rfl⟩ rfl rfl rfl rfl rfl (by kernel_rfl) Try.func5 (by kernel_rfl)
    (of_decide_eq_true (by kernel_rfl)) (by unfold Func.isWrapper; first | (rw [if_pos (by decide +kernel)]; kernel_rfl) | (rw [if_neg (by decide +kernel)]; exact ⟨rfl, rfl⟩))
    (fun os started H enc _ => lifted os started H enc)
end Go.Proofs.Ytedhippamfioeaa.RpfKidsL
