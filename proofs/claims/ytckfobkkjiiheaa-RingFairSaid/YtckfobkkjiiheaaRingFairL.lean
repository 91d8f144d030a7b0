/- RingFair: between two frames of a station every other one sends at most its limit, and all frames are sent: for every input. No condition. -/
import Derived.Test.YtckfobkkjiiheaaRingFact
import Derived.BigQuiet
import Derived.Test.YtckfobkkjiiheaaIn4
import Derived.Test.YtckfobkkjiiheaaBlk
namespace Go.Proofs.Ytckfobkkjiiheaa.RingFairL
open Go.ChangeShapes Go.WideShapes Go.ChangeAt Go.RowKit Go.Proofs.Ytckfobkkjiiheaa.Kit Go.Proofs.Ytckfobkkjiiheaa.App Go.Proofs.Ytckfobkkjiiheaa.Err Go.Proofs.Ytckfobkkjiiheaa.RingMath Go.Proofs.Ytckfobkkjiiheaa.Ring
set_option linter.unusedVariables false
set_option maxRecDepth 20000
set_option maxHeartbeats 4000000
abbrev Law (p : Option Addr) (cap n : Nat) (x : Int) (w : World) : Prop := Calls Try.prog 3 #[.slice p n cap, .int .i64 x] w fun e w' => e = .returned (.bool true) ∧ Below w.heap.size w w'
/-- How many of each of n. -/
def cnts (n : Nat) (L : List Nat) : List Int := (List.range n).map fun v => ((L.count v : Nat) : Int)
theorem cnts_len (n : Nat) (L : List Nat) : (cnts n L).length = n := by simp [cnts]
theorem cnts_get {n v : Nat} (L : List Nat) (h : v < n) : (cnts n L)[v]?.getD 0 = ((L.count v : Nat) : Int) := by simp [cnts, h]
theorem cnts_zero (n : Nat) : cnts n [] = List.replicate n 0 := by
  unfold cnts
  refine List.ext_getElem (by simp) fun i h1 h2 => ?_
  simp
theorem cnts_set {n v : Nat} (L : List Nat) (hv : v < n) : (cnts n L).set v (((L.count v : Nat) : Int) + 1) = cnts n (L ++ [v]) := by
  unfold cnts
  refine List.ext_getElem (by simp) fun i h1 h2 => ?_
  rw [List.getElem_set]
  by_cases e : v = i
  · subst e
    rw [if_pos rfl]
    simp
  · rw [if_neg e]
    simp [List.count_append, List.count_cons, e]
theorem cnts_all {l : List Int} {h : Nat} (g : Ring.Good l h) : cnts l.length (ord l h) = l := by
  unfold cnts
  refine List.ext_getElem (by simp) fun i h1 h2 => ?_
  have hi : i < l.length := h2
  have e1 := order_count (f := fn l) (h := h) (T := 20) g.top hi
  have e2 := (g.fn hi).1
  rw [List.getElem?_eq_getElem hi] at e2
  simp only [List.getElem_map, List.getElem_range]
  show (((ord l h).count i : Nat) : Int) = l[i]
  unfold ord
  rw [e1]
  exact e2.symm
theorem wf_few {x : Int} (h : 0 ≤ x ∧ x ≤ 1000) : (Lit.int .i64 x).wf = true := by
  simp [Lit.wf, IntKind.min, IntKind.max, IntKind.signed, IntKind.bits]; omega
theorem law_bad (p : Option Addr) (cap n : Nat) (l : List Int) (x : Int) (w : World) (hn : n = l.length) (hi : Ints w p cap l) (c : Int) (hc : codeH l x = c) (h0 : c ≠ 0) : Law p cap n x w := by
  have hlen := hi.len_le
  rw [← hn] at hlen
  have RB := Lib.hid (fun W (hW : Below w.heap.size w W) => run_bad p cap n l x W hn (hi.below hW) c hc h0)
  have GB := Lib.hid (fun W (hW : Below w.heap.size w W) => gap_bad p cap n l x W hn (hi.below hW) c hc h0)
  rw [er_ne h0] at RB GB
  clear hn hi hc h0
  have FA := Lib.hid (Ring.fact_any w)
  unfold Law
  go_enter Try.func3, Try.ntmps3
  go_wp2_with fail
  refine FA.out.mono ?_; rintro e w1 ⟨rfl, hb1⟩
  have HB1 := Lib.hid hb1
  clear FA hb1
  go_wp2_with fail
  refine (RB.out w1 HB1.out).mono ?_; rintro e w2 ⟨rfl, hb⟩
  have HB2 := Lib.hid (bcall HB1.out hb)
  clear RB HB1 hb
  go_wp2_with fail
  refine (GB.out w2 HB2.out).mono ?_; rintro e w3 ⟨rfl, hb⟩
  have HB3 := Lib.hid (bcall HB2.out hb)
  clear GB HB2 hb
  go_wp2_with fail
  go_ret
  exact ⟨by first | rfl | simp, HB3.out⟩
theorem law_good (p : Option Addr) (cap n : Nat) (l : List Int) (h : Nat) (w : World) (hn : n = l.length) (hi : Ints w p cap l) (g : Ring.Good l h) : Law p cap n (h : Int) w := by
  have hlen := hi.len_le
  rw [← hn] at hlen
  have RG := Lib.hid (fun W (hW : Below w.heap.size w W) => run_good p cap n l h W hn (hi.below hW) g)
  have GG := Lib.hid (fun W (hW : Below w.heap.size w W) => gap_good p cap n l h W hn (hi.below hW) g)
  have hn8 : n ≤ 8 := by rw [hn]; exact g.up
  have hn1 : 1 ≤ n := by rw [hn]; exact g.lo
  have hh1 := g.h1
  have hh20 := g.h20
  have HI := Lib.hid hi
  have HN := Lib.hid hn
  have HG := Lib.hid g
  obtain ⟨bw, ow, hpw, hbw, hcw⟩ := hi.2.2.2 (by omega)
  subst hpw
  have CW := Lib.hid (fun W (hW : Below w.heap.size w W) j (hj : j < n) => (show W.cell? ⟨bw, ow + j, none⟩ = some (.int .i64 ((fn l j : Nat) : Int)) ∧ fn l j ≤ 20 from by
    have h1 := g.fn (k := j) (by omega)
    refine ⟨?_, h1.2⟩
    rw [hW.cell (p := ⟨bw, ow + j, none⟩) hbw, hcw j (by omega), h1.1]))
  have IN := Lib.hid (fun (v : Nat) (hv : v < n) W => in_any (v : Int) 0 ((n : Int) - 1) W true (in_true ⟨by omega, by omega⟩))
  have hw1 : IntKind.i64.wrap ((n : Int) - 1) = (n : Int) - 1 := wrap_in (n := (n : Int) - 1) ⟨by omega, by omega⟩
  obtain ⟨L, hL⟩ : ∃ L, ord l h = L := ⟨_, rfl⟩
  have HLM := Lib.hid (fun v (hv : v ∈ L) => (show v < n from by rw [← hL] at hv; rw [hn]; exact mem_order hv))
  have HLL := Lib.hid (show L.length ≤ 160 from by rw [← hL]; exact g.len.2)
  have HCA := Lib.hid (show cnts n L = l from by rw [← hL, hn]; exact cnts_all g)
  have HGP := Lib.hid (show RingMath.gap L ≤ h * (n - 1) from by rw [← hL, hn]; exact g.gap)
  rw [hL] at RG GG
  clear hn hi g hbw hcw hL
  have FA := Lib.hid (Ring.fact_any w)
  unfold Law
  go_enter Try.func3, Try.ntmps3
  go_wp2_with fail
  refine FA.out.mono ?_; rintro e w1 ⟨rfl, hb1⟩
  have HB1 := Lib.hid hb1
  clear FA hb1
  go_wp2_with fail
  refine (RG.out w1 HB1.out).mono ?_; rintro e w2 ⟨u, rfl, ho, hb⟩
  have HB2 := Lib.hid (bcall HB1.out hb)
  obtain ⟨pu, cu, rfl, iu⟩ := ho.form
  rw [nat_len]
  have IU2 := Lib.hid iu
  clear RG HB1 ho iu hb
  go_wp2_with fail
  refine (GG.out w2 HB2.out).mono ?_; rintro e w3 ⟨rfl, hb⟩
  have HB3 := Lib.hid (bcall HB2.out hb)
  have IU := Lib.hid (IU2.out.below hb)
  clear GG HB2 IU2 hb
  obtain ⟨w4, hmk, ho4, hg4⟩ := made_ints w3 n (by omega)
  obtain ⟨G, hG⟩ : ∃ G, w3.heap.size = G := ⟨_, rfl⟩
  rw [hG] at hmk ho4
  have HB4 := Lib.hid (show Below w3.heap.size w3 w4 from (brefl w3).grown hg4 (Nat.le_refl _) (fun k hk => by cases hk))
  have HO4 := Lib.hid (show OwnI w4 G (.slice (some ⟨G, 0, none⟩) n n) (cnts n (L.take 0)) from by rw [List.take_zero, cnts_zero]; exact ho4)
  have HGG := Lib.hid hG
  obtain ⟨q, hq⟩ : ∃ q, L.length = q := ⟨_, rfl⟩
  rw [hq]
  have HQ := Lib.hid hq
  have hq160 : q ≤ 160 := by rw [← hq]; exact HLL.out
  obtain ⟨gp, hgp⟩ : ∃ gp, RingMath.gap L = gp := ⟨_, rfl⟩
  rw [hgp] at HGP ⊢
  clear ho4 hg4 hG hq hgp
  go_wp2_with fail
  clear hmk
  go_loopw [11] (fun iv wr => ∃ i : Nat, i ≤ q ∧ iv = .int .i64 i ∧ Hid (OwnI wr G (.slice (some ⟨G, 0, none⟩) n n) (cnts n (L.take i))) ∧ Hid (Below w3.heap.size w3 wr)) (fun i _ => q - (intOf i).toNat)
  case atStart => exact ⟨0, Nat.zero_le _, rfl, HO4, HB4⟩
  case round =>
    obtain ⟨i, hiq, rfl, HO, HR⟩ := hrel
    clear HO4
    by_cases hlt : i < q
    · have v0 : decide ((i : Int) < (q : Int)) = true := decide_eq_true (by omega)
      have v1 : (i : Int) < (q : Int) := by omega
      have hil : i < L.length := by rw [HQ.out]; exact hlt
      obtain ⟨bl, ol, hpl, hbl, hcl⟩ := (IU.out.below HR.out).2.2.2 (by rw [nat_len]; omega)
      subst hpl
      have hcu : q ≤ cu := by have := IU.out.1; rwa [nat_len, HQ.out] at this
      have x0 := hcl i (by rw [nat_len]; exact hil)
      have hv0 : L[i]? = some L[i] := List.getElem?_eq_getElem hil
      rw [nat_get hv0] at x0
      have hvn := HLM.out _ (List.getElem_mem hil)
      have HTK := Lib.hid (show L.take (i + 1) = L.take i ++ [L[i]] from List.take_succ_eq_append_getElem hil)
      obtain ⟨v, hv⟩ : ∃ v, L[i] = v := ⟨_, rfl⟩
      rw [hv] at x0 hvn HTK
      have hvn' : (v : Int) < (n : Int) := by omega
      have INV := Lib.hid (fun W => IN.out v hvn W)
      have d0 := own_cell HO.out v (by rw [cnts_len]; exact hvn)
      rw [cnts_get _ hvn] at d0
      have d1 := own_fz HO.out v
      have hc200 : (L.take i).count v ≤ 200 := Nat.le_trans List.count_le_length (by rw [List.length_take]; have := HLL.out; omega)
      have HSET := Lib.hid (fun W (hW : OwnI W G (.slice (some ⟨G, 0, none⟩) n n) (cnts n (L.take i))) => (show OwnI (W.setCell ⟨G, v, none⟩ (.int .i64 ((((L.take i).count v : Nat) : Int) + 1))) G (.slice (some ⟨G, 0, none⟩) n n) (cnts n (L.take (i + 1))) from by
        have h1 := own_set hW v ((((L.take i).count v : Nat) : Int) + 1) (wf_few (by omega))
        rwa [cnts_set _ hvn, ← HTK.out] at h1))
      have HOD := Lib.hid (fun m => (show OwnI (wr.drewN m) G (.slice (some ⟨G, 0, none⟩) n n) (cnts n (L.take i)) from HO.out))
      have HRD := Lib.hid (fun m x => below_set (bdrewN HR.out m) G v x (by rw [HGG.out]; exact Nat.le_refl _))
      obtain ⟨r, hr⟩ : ∃ r, (L.take i).count v = r := ⟨_, rfl⟩
      rw [hr] at d0 hc200 HSET
      have hw9 : IntKind.i64.wrap ((r : Int) + 1) = (r : Int) + 1 := wrap_in (by omega)
      clear hcl hbl hv0 hv hr hil
      go_wp2_with fail
      refine (INV.out wr).mono ?_; rintro e w5 ⟨rfl, hw5⟩
      rw [hw5]
      clear hw5 w5
      have HS1 := Lib.hid (show OwnI (wr.setCell ⟨G, v, none⟩ (.int .i64 ((r : Int) + 1))).drew G (.slice (some ⟨G, 0, none⟩) n n) (cnts n (L.take (i + 1))) from HSET.out wr HO.out)
      have HS2 := Lib.hid (show Below w3.heap.size w3 (wr.setCell ⟨G, v, none⟩ (.int .i64 ((r : Int) + 1))).drew from bdrewN (below_set HR.out G v _ (by rw [HGG.out]; exact Nat.le_refl _)) 1)
      clear HOD HRD HSET
      go_wp2_with fail
      go_region
      go_wp2_with fail
      go_roundw
      case rel => exact ⟨i + 1, hlt, by first | rfl | go_num, HS1, HS2⟩
      case measure => simp [intOf]; omega
    · obtain rfl : i = q := by omega
      have v0 : decide ((i : Int) < (i : Int)) = false := decide_eq_false (by omega)
      have HOE := Lib.hid (show OwnI wr G (.slice (some ⟨G, 0, none⟩) n n) l from by
        rw [← HCA.out, ← List.take_of_length_le (l := L) (i := i) (by rw [HQ.out]; exact Nat.le_refl _)]; exact HO.out)
      obtain ⟨pv, cv, ev, iv⟩ := HOE.out.form
      rw [← HN.out] at ev
      injection ev with ev1 _ ev2
      subst ev1; subst ev2
      have SM := Lib.hid (ints_any (some ⟨G, 0, none⟩) (some ⟨bw, ow, none⟩) n cap n n l l wr HN.out HN.out iv (HI.out.below (bcall HB3.out HR.out)) true (by simp))
      have HBF := Lib.hid (bcall HB3.out HR.out)
      obtain ⟨m1, hm1⟩ : ∃ m1, n - 1 = m1 := ⟨_, rfl⟩
      have hm2 : (n : Int) - 1 = (m1 : Int) := by omega
      obtain ⟨pr, hpr⟩ : ∃ pr, h * m1 = pr := ⟨_, rfl⟩
      have hp2 : pr ≤ 20 * 8 := by rw [← hpr]; exact Nat.mul_le_mul hh20 (by omega)
      have hp3 : (h : Int) * (m1 : Int) = (pr : Int) := by rw [← hpr]; exact (Int.natCast_mul h m1).symm
      have hgp := HGP.out
      rw [hm1, hpr] at hgp
      rw [hm2] at hw1
      have hw2 : IntKind.i64.wrap ((n : Int) - 1) = (m1 : Int) := by rw [hm2]; exact hw1
      have hw3 : IntKind.i64.wrap ((h : Int) * (m1 : Int)) = (pr : Int) := by rw [hp3]; exact wrap_in (by omega)
      have t1 : decide ((gp : Int) ≤ (pr : Int)) = true := decide_eq_true (by omega)
      have t1n : decide (gp ≤ pr) = true := decide_eq_true hgp
      clear hm1 hpr hm2 hp3 hw1 iv HO hgp hp2
      go_wp2_with fail
      refine SM.out.mono ?_; rintro e w5 ⟨rfl, hb⟩
      have HB5 := Lib.hid (bcall HBF.out hb)
      clear SM hb HBF
      go_wp2_with fail
      go_ret
      exact ⟨by first | rfl | simp, HB5.out⟩
theorem law_any (p : Option Addr) (cap n : Nat) (l : List Int) (x : Int) (w : World) (hn : n = l.length) (hi : Ints w p cap l) : Law p cap n x w := by
  by_cases h : codeH l x = 0
  · obtain ⟨k, rfl, g⟩ := codeH_zero h
    exact law_good p cap n l k w hn hi g
  · exact law_bad p cap n l x w hn hi _ rfl h

theorem reads : Try.f3.params.toList.all (fun t => Try.prog.readableRec t && decide (t < Try.prog.types.size)) = true := by kernel_rfl

theorem contract (H : Type) (enc : TypeId × Value → H) (W : World) (base : Nat) (args : Array Value) (ds gs : List (DataW H)) (before : List MemPlace)
    (hval : ∀ (j : Nat) t v, Try.f3.params[j]? = some t → args[j]? = some v → Value.okWide Try.prog W .any base t v)
    (hW : DataW.Whole enc Try.prog Try.f3.params.toList Rows.ringFairSpec.vars false W args.toList ds gs before) :
    Calls Try.prog 3 args W fun e W' => ∃ v, e = .returned v ∧ Rows.ringFairSpec.post enc Try.prog Try.f3 false true false false W args v W' := by
  have hW' := hW
  obtain ⟨p, q, hA0, hV, rfl, hfz, hnd⟩ := hW
  have hA : DataW.TrodAll enc Try.prog W 0 (fun _ => true) true Try.f3.params.toList args.toList ds p := hA0
  have hlt := hA.lt
  rw [Try.params3] at hA hval
  obtain ⟨v0, vs0, d0, ds0, p0, q0, hargs, rfl, rfl, h0, r0⟩ := trodAll_cons hA
  obtain ⟨v1, vs1, d1, ds1, p1, q1, hvs1, rfl, rfl, h1, r1⟩ := trodAll_cons r0
  obtain ⟨hvsn, rfl, rfl⟩ := trodAll_nil r1
  simp only [hvsn, hvs1] at hargs
  obtain rfl : args = #[v0, v1] := by cases args; simp_all
  obtain ⟨rfl, rfl⟩ := trodVars_none hV
  clear hA0
  obtain ⟨p0a, cap0, l0, rfl, i0⟩ := open_intsl Try.underlying22 Try.underlying3 (by kernel_rfl) (hval 0 22 v0 rfl rfl) h0 (fun x hx => hlt x (by simp [hx]))
  obtain ⟨a1, rfl, rfl, rfl, w1⟩ := open_int Try.underlying3 (hval 1 3 v1 rfl rfl) h1
  have b1 := bounds_int w1
  exact law_post 4 laid reads rfl Try.underlying4 rfl hW' ⟨rfl, rfl, rfl⟩ (law_any p0a _ _ l0 a1 W rfl i0)

set_option maxRecDepth 100000 in
theorem lifted (os : Os) (started : os.Started) (H : Type) (enc : TypeId × Value → H) :
    ReturnsInHanded {} Try.checked os 3 .any (Rows.ringFairSpec.pre6 enc Try.prog Try.f3 Rows.ringFairRow.domain false) (Rows.ringFairSpec.post enc Try.prog Try.f3 false true false false) := by
  refine returnsInHanded_of_change (C := Try.checked) own started (by kernel_rfl) Try.func3
    (ChangeSpec.witness6 (enc := enc) (C := Try.checked) false ⟨#[], #[.slice none 0 0, .int .i64 0], []⟩ 8 (by kernel_rfl) (by kernel_rfl) (by kernel_rfl) (by kernel_rfl)) ?_
  intro W base args ds gs before hval hW _ _
  exact contract H enc W base args ds gs before hval hW

theorem proved : Rows.RingFairSaid :=
  OpenClaim.holds_of_wide 3 Try.f3 rfl rfl rfl rfl rfl rfl rfl ⟨rfl, rfl, rfl, rfl, rfl⟩ rfl rfl rfl rfl rfl (by kernel_rfl) Try.func3 (by kernel_rfl)
    (of_decide_eq_true (by kernel_rfl)) (by unfold Func.isWrapper; first | (rw [if_pos (by decide +kernel)]; kernel_rfl) | (rw [if_neg (by decide +kernel)]; exact ⟨rfl, rfl⟩))
    (fun os started H enc _ => lifted os started H enc)
end Go.Proofs.Ytckfobkkjiiheaa.RingFairL
