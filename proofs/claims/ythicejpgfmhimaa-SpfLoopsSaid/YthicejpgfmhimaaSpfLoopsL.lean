/- SpfLoops: who follows the first hops comes to no node twice, goes over links, and goes as far as was said: for every input. No condition. -/
import Derived.Test.YthicejpgfmhimaaSpfFact
import Derived.Test.YthicejpgfmhimaaIn3
import Derived.BigQuiet
import Derived.Test.YthicejpgfmhimaaVecCost
import Derived.Test.YthicejpgfmhimaaHasIn
namespace Go.Proofs.Ythicejpgfmhimaa.SpfLoopsL
open Go.ChangeShapes Go.WideShapes Go.ChangeAt Go.RowKit Go.Proofs.Ythicejpgfmhimaa.Kit Go.Proofs.Ythicejpgfmhimaa.App Go.Proofs.Ythicejpgfmhimaa.Cells Go.Proofs.Ythicejpgfmhimaa.Err Go.Proofs.Ythicejpgfmhimaa.Vector Go.Proofs.Ythicejpgfmhimaa.Spf
set_option linter.unusedVariables false
set_option maxRecDepth 20000
set_option maxHeartbeats 2000000
abbrev Law (n : Int) (p : Option Addr) (m cap : Nat) (s t : Int) (w : World) : Prop := Calls Try.prog 3 #[.int .i64 n, .slice p m cap, .int .i64 s, .int .i64 t] w fun e w' => e = .returned (.bool true) ∧ Below w.heap.size w w'
theorem law_bad (n s t : Int) (p : Option Addr) (m cap : Nat) (ls : List Lk) (w : World) (hm : m = ls.length) (hi : CI layL w p cap ls) (hs : (Lit.int .i64 s).wf = true) (ht : (Lit.int .i64 t).wf = true) (c : Int) (hw : Wayc n ls s t c []) (h0 : c ≠ 0) : Law n p m cap s t w := by
  have hlm := hi.len_le
  rw [← hm] at hlm
  have FW := Lib.hid (fun W (hW : Below w.heap.size w W) => way_any n s t p cap m ls W hm (hi.below hW) hs ht c [] hw)
  rw [er_ne h0] at FW
  clear hm hi hs ht hw h0
  have FA := Lib.hid (Spf.fact_any w)
  unfold Law
  go_enter Try.func3, Try.ntmps3
  go_wp2_with fail
  refine FA.out.mono ?_; rintro e w1 ⟨rfl, hb1⟩
  have HB1 := Lib.hid hb1
  clear FA hb1
  go_wp2_with fail
  refine (FW.out w1 HB1.out).mono ?_; rintro e w2 ⟨v, rfl, hv, hb⟩
  have HB2 := Lib.hid (bcall HB1.out hb)
  obtain ⟨pv, cv, rfl, iv⟩ := hv
  rw [show (ints []).length = 0 from rfl]
  clear FW HB1 hb iv
  go_wp2_with fail
  go_ret
  exact ⟨by first | rfl | simp, HB2.out⟩
theorem ints_get {L : List Nat} {k : Nat} (hk : k < L.length) : (ints L)[k]?.getD 0 = ((L[k]?.getD 0 : Nat) : Int) := by
  unfold ints
  rw [List.getElem?_map, List.getElem?_eq_getElem hk]
  rfl
theorem law_good (n s t : Nat) (p : Option Addr) (m cap : Nat) (ls : List Lk) (w : World) (hm : m = ls.length) (hi : CI layL w p cap ls) (g : Vector.Good n ls) (hs : s < n) (ht : t < n) (L : List Nat) (hw : Ways n ls s t 0 L) (hT : Trail ls t s L) : Law n p m cap s t w := by
  have hlm := hi.len_le
  rw [← hm] at hlm
  have FW := Lib.hid (fun W (hW : Below w.heap.size w W) => way_good n s t p cap m ls W hm (hi.below hW) g hs ht 0 L hw)
  have FR := Lib.hid (fun W (hW : Below w.heap.size w W) => from_good n s p cap m ls W hm (hi.below hW) g hs)
  have RC := Lib.hid (fun W (hW : Below w.heap.size w W) a b => rcost_any p cap m ls a b W hm (hi.below hW))
  rw [er_0] at FW
  have hn8 := g.up
  have hw1 : IntKind.i64.wrap ((n : Int) - 1) = (n : Int) - 1 := wrap_in (n := (n : Int) - 1) ⟨by omega, by omega⟩
  have IN := Lib.hid (fun W => Drr.in_any (t : Int) 0 ((n : Int) - 1) W true (in_true ⟨by omega, by omega⟩))
  have hlen := hT.len g hs
  obtain ⟨q, hq⟩ : ∃ q, L.length = q + 1 := ⟨L.length - 1, by omega⟩
  obtain ⟨k, hk⟩ : ∃ k, L.length = k := ⟨_, rfl⟩
  have HKQ := Lib.hid (show k = q + 1 ∧ k ≤ 8 by omega)
  have h0 : L[0]?.getD 0 = s := by
    obtain ⟨tl, rfl⟩ := hT.head
    rfl
  have hl : L[q]?.getD 0 = t := by
    have := hT.last
    rw [hq, Nat.add_sub_cancel] at this
    rw [this]; rfl
  have HG := Lib.hid g
  have HT := Lib.hid hT
  have HQ := Lib.hid hq
  have HK := Lib.hid hk
  have HTN := Lib.hid ht
  have HSN := Lib.hid hs
  have ht' : (t : Int) < (n : Int) := by omega
  have HL0 := Lib.hid h0
  have HLL := Lib.hid hl
  clear hm hi g hs hw hT hq ht hk h0 hl hlen
  have FA := Lib.hid (Spf.fact_any w)
  unfold Law
  go_enter Try.func3, Try.ntmps3
  go_wp2_with fail
  refine FA.out.mono ?_; rintro e w1 ⟨rfl, hb1⟩
  have HB1 := Lib.hid hb1
  clear FA hb1
  go_wp2_with fail
  refine (FW.out w1 HB1.out).mono ?_; rintro e w2 ⟨v, rfl, hv, hb⟩
  have HB2 := Lib.hid (bcall HB1.out hb)
  obtain ⟨pl, cl, rfl, il⟩ := hv
  rw [ints_len, HK.out]
  have IL := Lib.hid il
  clear FW HB1 hb il
  go_wp2_with fail
  refine (FR.out w2 HB2.out).mono ?_; rintro e w3 ⟨u, v, rfl, hu, hv, hb⟩
  have HB3 := Lib.hid (bcall HB2.out hb)
  have IL3 := Lib.hid (IL.out.below hb)
  obtain ⟨pu, cu, rfl, iu⟩ := hu
  obtain ⟨pv, cv, rfl, iv⟩ := hv
  rw [rw1_len, rw1_len]
  obtain ⟨hkq, hk8⟩ := HKQ.out
  obtain ⟨bl, ol, hpl, hbl, hcl⟩ := IL3.out.2.2.2 (by rw [ints_len, HK.out]; omega)
  obtain ⟨bu, ou, hpu, hbu, hcu⟩ := iu.2.2.2 (by rw [rw1_len]; omega)
  subst hpl; subst hpu
  have hcap : k ≤ cl := by have := IL3.out.1; rw [ints_len, HK.out] at this; exact this
  have CL := Lib.hid (fun W (hW : Below w3.heap.size w3 W) j (hj : j < k) => (show W.cell? ⟨bl, ol + j, none⟩ = some (.int .i64 ((L[j]?.getD 0 : Nat) : Int)) from by
    rw [hW.cell (p := ⟨bl, ol + j, none⟩) hbl, hcl j (by rw [ints_len, HK.out]; exact hj), ints_get (by rw [HK.out]; exact hj)]))
  have CU := Lib.hid (fun W (hW : Below w3.heap.size w3 W) => (show W.cell? ⟨bu, ou + t, none⟩ = some (.int .i64 (ds ls s t)) from by
    rw [hW.cell (p := ⟨bu, ou + t, none⟩) hbu, hcu t (by rw [rw1_len]; exact HTN.out), rw1_get _ _ HTN.out]))
  have l0 := CL.out w3 (brefl _) 0 (by omega)
  have lq := CL.out w3 (brefl _) q (by omega)
  rw [HL0.out] at l0
  rw [Nat.add_zero] at l0
  rw [HLL.out] at lq
  have wq : IntKind.i64.wrap ((k : Int) - 1) = (q : Int) := by rw [hkq]; rw [wrap_in (n := ((q + 1 : Nat) : Int) - 1) ⟨by omega, by omega⟩]; omega
  have wq2 : (k : Int) - 1 = (q : Int) := by omega
  have k0 : ((k : Int) == 0) = false := beq_eq_false_iff_ne.2 (by omega)
  have k1 : ((n : Int) != (n : Int)) = false := by simp
  have k2 : ((s : Int) != (s : Int)) = false := by simp
  have k3 : ((t : Int) != (t : Int)) = false := by simp
  have k4 : (q : Int) < (k : Int) := by omega
  have k5 : (0 : Int) < (k : Int) := by omega
  clear FR HB2 hb IL iu iv hbl hbu hcl hcu hkq
  go_wp2_with fail
  refine (IN.out w3).mono ?_; rintro e w4 ⟨rfl, hw4⟩
  rw [hw4]
  clear hw4 w4
  go_wp2_with fail
  clear l0 lq wq wq2 k0 k1 k2 k3 k4 k5 IN hw1
  go_loopw [14, 15] (fun sv iv wr => ∃ (j : Nat) (d : Int), j + 1 ≤ k ∧ iv = .int .i64 ((j + 1 : Nat) : Int) ∧ sv = .int .i64 d ∧ Hid (d = gone ls L j) ∧ Hid (Below w3.heap.size w3 wr)) (fun _ i _ => k - (intOf i).toNat)
  case atStart => exact ⟨0, 0, by have := HKQ.out; omega, rfl, rfl, Lib.hid rfl, Lib.hid (brefl _)⟩
  case round =>
    obtain ⟨j, d, hj, rfl, rfl, HD, HR⟩ := hrel
    obtain ⟨i, hij⟩ : ∃ i, j + 1 = i := ⟨_, rfl⟩
    rw [hij] at hj ⊢
    by_cases hlt : i < k
    · have v0 : decide ((i : Int) < (k : Int)) = true := decide_eq_true (by omega)
      have v1 : (i : Int) < (k : Int) := by omega
      have v2 : (j : Int) < (k : Int) := by omega
      have v3 : (i : Int) ≤ (cl : Int) := by omega
      have hk8 := HKQ.out.2
      have wi : IntKind.i64.wrap ((i : Int) - 1) = (j : Int) := by rw [wrap_in (n := (i : Int) - 1) ⟨by omega, by omega⟩]; omega
      have ci := CL.out wr HR.out i hlt
      have cj := CL.out wr HR.out j (by omega)
      have hno : (L[i]?.getD 0) ∉ L.take i := fun hm => by
        obtain ⟨x, hx, e⟩ := List.getElem_of_mem hm
        rw [List.length_take] at hx
        rw [List.getElem_take] at e
        refine HT.out.no HG.out (j := x) (k := i) (by omega) (by rw [HK.out]; exact hlt) ?_
        rw [← e, List.getElem?_eq_getElem (by omega)]
        rfl
      have hnb := HT.out.at HG.out j (by rw [HK.out]; omega)
      rw [hij] at hnb
      have hgo : gone ls L i = d + co ls (L[j]?.getD 0) (L[i]?.getD 0) := by
        rw [← hij, HD.out]; rfl
      have hgn := HT.out.gone HG.out i (by rw [HK.out]; exact hlt)
      have hgj := HT.out.gone HG.out j (by rw [HK.out]; omega)
      rw [← HD.out] at hgj
      have b1 := ds_nat HG.out (L[i]?.getD 0) t
      have b2 := ds_top HG.out s t
      have b3 := ds_nat HG.out (L[j]?.getD 0) t
      have b4 := ds_top HG.out (L[i]?.getD 0) t
      have b5 := ds_nat HG.out s t
      have HP := Lib.hid (fun W (hW : Below w3.heap.size w3 W) => (show Ints W (some ⟨bl, ol, none⟩) cl ((ints L).take i) from ints_sub (IL3.out.below hW) 0 i cl (by rw [ints_len, HK.out]; omega) (by omega) IL3.out.2.1))
      have hmem : ((L[i]?.getD 0 : Nat) : Int) ∉ (ints L).take i := fun hm => by
        unfold ints at hm
        rw [← List.map_take] at hm
        obtain ⟨x, hx, e⟩ := List.mem_map.1 hm
        have : x = L[i]?.getD 0 := by omega
        subst this
        exact hno hx
      have HH := Lib.hid (fun W (hW : Below w3.heap.size w3 W) => has_in (some ⟨bl, ol, none⟩) cl i ((ints L).take i) ((L[i]?.getD 0 : Nat) : Int) W (by rw [List.length_take, ints_len, HK.out]; omega) (HP.out W hW) false (by rw [decide_eq_false hmem]))
      have CC := Lib.hid (fun W (hW : Below w3.heap.size w3 W) => RC.out W (bcall HB3.out hW) ((L[j]?.getD 0 : Nat) : Int) ((L[i]?.getD 0 : Nat) : Int))
      have hcv : cst ls ((L[j]?.getD 0 : Nat) : Int) ((L[i]?.getD 0 : Nat) : Int) ls.length = co ls (L[j]?.getD 0) (L[i]?.getD 0) := rfl
      rw [hcv] at CC
      have hne := hnb.1
      obtain ⟨c, hc⟩ : ∃ c, co ls (L[j]?.getD 0) (L[i]?.getD 0) = c := ⟨_, rfl⟩
      rw [hc] at CC hgo hne
      generalize L[i]?.getD 0 = y at ci HH CC hgn b1 b4 hnb hmem hno hc hcv
      generalize L[j]?.getD 0 = x at cj CC hgj b3 hnb hc hcv
      have e1 : (c == 1000) = false := beq_eq_false_iff_ne.2 hne
      obtain ⟨z, hz⟩ : ∃ z, gone ls L i = z := ⟨_, rfl⟩
      rw [hz] at hgo hgn
      have hwz : IntKind.i64.wrap (d + c) = z := by rw [hgo]; exact wrap_in (n := d + c) ⟨by omega, by omega⟩
      have HZ := Lib.hid hz.symm
      have HN := Lib.hid (fun q => bdrewN HR.out q)
      have hcl0 : ¬ cl = 0 := by omega
      have HIJ := Lib.hid hij
      clear hno hnb hgo hgn hgj b1 b2 b3 b4 b5 hmem hcv hne hc hz hij
      go_wp2_with fail
      go_quiet ((go_at_call 11; refine Calls.quiet_of_same (HH.out _ (HN.out _))))
      go_wp2_with fail
      have HN1 := Lib.hid (fun k => bdrewN HR.out (nq + k))
      have c2 : (wr.drewN nq).cell? ⟨bl, ol + i, none⟩ = some (.int .i64 (y : Int)) := ci
      have c3 : (wr.drewN nq).cell? ⟨bl, ol + j, none⟩ = some (.int .i64 (x : Int)) := cj
      have CC1 := Lib.hid (fun k => (CC.out _ (HN1.out k)))
      have HN2 := Lib.hid (fun k => (show Below w3.heap.size w3 ((wr.drewN nq).drewN k) from by rw [World.drewN_drewN]; exact HN1.out k))
      have CC2 := Lib.hid (fun k => (show Calls Try.prog 12 #[.slice p m cap, .int .i64 (x : Int), .int .i64 (y : Int)] ((wr.drewN nq).drewN k) (fun e w' => e = .returned (.int .i64 c) ∧ w' = (wr.drewN nq).drewN k) from by rw [World.drewN_drewN]; exact CC1.out k))
      clear ci cj CC CC1 HN HN1 HH HP HR
      generalize wr.drewN nq = w6 at c2 c3 CC2 HN2 ⊢
      go_quiet ((go_at_call 12; refine Calls.quiet_of_same (CC2.out _)))
      go_wp2_with fail
      go_roundw
      case rel => exact ⟨i, z, by omega, by first | rfl | go_num, rfl, HZ, Lib.hid (HN2.out _)⟩
      case measure => simp [intOf]; omega
    · obtain rfl : i = k := by omega
      have v0 : decide ((i : Int) < (i : Int)) = false := decide_eq_false (by omega)
      have cu0 := CU.out wr HR.out
      have he : d = ds ls s t := by
        have h1 := HT.out.full HG.out HSN.out
        rw [HK.out] at h1
        rw [HD.out, ← h1, ← hij, Nat.add_sub_cancel]
      rw [he]
      have e1 : (ds ls s t == ds ls s t) = true := by simp
      generalize ds ls s t = f at cu0 e1 ⊢
      have HBF := Lib.hid (bcall HB3.out HR.out)
      go_wp2_with fail
      go_ret
      exact ⟨by first | rfl | simp, HBF.out⟩
theorem law_any (n s t : Int) (p : Option Addr) (m cap : Nat) (ls : List Lk) (w : World) (hm : m = ls.length) (hi : CI layL w p cap ls) (hs : (Lit.int .i64 s).wf = true) (ht : (Lit.int .i64 t).wf = true) : Law n p m cap s t w := by
  obtain ⟨c, L, hw⟩ := wayc_ex n s t ls
  by_cases h0 : c = 0
  · subst h0
    rcases hw with ⟨h, _⟩ | ⟨h, hw⟩
    · exact absurd rfl h
    · obtain ⟨N, S, T, rfl, rfl, rfl, g, hS, hT⟩ := wrong_two h
      rw [Int.toNat_natCast, Int.toNat_natCast, Int.toNat_natCast] at hw
      rcases hw with ⟨h5, _⟩ | ⟨_, hd, hTr⟩
      · cases h5
      · exact law_good N S T p m cap ls w hm hi g hS hT L (.inr ⟨rfl, hd, hTr⟩) hTr
  · have hL : L = [] := by
      rcases hw with ⟨_, _, h⟩ | ⟨_, hw⟩
      · exact h
      · rcases hw with ⟨_, _, _, h⟩ | ⟨h, _⟩
        · exact h
        · exact absurd h h0
    subst hL
    exact law_bad n s t p m cap ls w hm hi hs ht c hw h0

theorem reads : Try.f3.params.toList.all (fun t => Try.prog.readableRec t && decide (t < Try.prog.types.size)) = true := by kernel_rfl

theorem contract (H : Type) (enc : TypeId × Value → H) (W : World) (base : Nat) (args : Array Value) (ds gs : List (DataW H)) (before : List MemPlace)
    (hval : ∀ (j : Nat) t v, Try.f3.params[j]? = some t → args[j]? = some v → Value.okWide Try.prog W .any base t v)
    (hW : DataW.Whole enc Try.prog Try.f3.params.toList Rows.spfLoopsSpec.vars false W args.toList ds gs before) :
    Calls Try.prog 3 args W fun e W' => ∃ v, e = .returned v ∧ Rows.spfLoopsSpec.post enc Try.prog Try.f3 false true false false W args v W' := by
  have hW' := hW
  obtain ⟨p, q, hA0, hV, rfl, hfz, hnd⟩ := hW
  have hA : DataW.TrodAll enc Try.prog W 0 (fun _ => true) true Try.f3.params.toList args.toList ds p := hA0
  have hlt := hA.lt
  rw [Try.params3] at hA hval
  obtain ⟨v0, vs0, d0, ds0, p0, q0, hargs, rfl, rfl, h0, r0⟩ := trodAll_cons hA
  obtain ⟨v1, vs1, d1, ds1, p1, q1, hvs1, rfl, rfl, h1, r1⟩ := trodAll_cons r0
  obtain ⟨v2, vs2, d2, ds2, p2, q2, hvs2, rfl, rfl, h2, r2⟩ := trodAll_cons r1
  obtain ⟨v3, vs3, d3, ds3, p3, q3, hvs3, rfl, rfl, h3, r3⟩ := trodAll_cons r2
  obtain ⟨hvsn, rfl, rfl⟩ := trodAll_nil r3
  simp only [hvsn, hvs3, hvs2, hvs1] at hargs
  obtain rfl : args = #[v0, v1, v2, v3] := by cases args; simp_all
  obtain ⟨rfl, rfl⟩ := trodVars_none hV
  clear hA0
  obtain ⟨a0, rfl, rfl, rfl, w0⟩ := open_int Try.underlying3 (hval 0 3 v0 rfl rfl) h0
  have b0 := bounds_int w0
  obtain ⟨p1a, cap1, l1, rfl, i1, e1⟩ := Go.Proofs.Ythicejpgfmhimaa.Vector.open_links (hval 1 22 v1 rfl rfl) h1 (fun x hx => hlt x (by simp [hx]))
  obtain ⟨a2, rfl, rfl, rfl, w2⟩ := open_int Try.underlying3 (hval 2 3 v2 rfl rfl) h2
  have b2 := bounds_int w2
  obtain ⟨a3, rfl, rfl, rfl, w3⟩ := open_int Try.underlying3 (hval 3 3 v3 rfl rfl) h3
  have b3 := bounds_int w3
  exact law_post 4 laid reads rfl Try.underlying4 rfl hW' ⟨rfl, rfl, rfl⟩ (law_any a0 a2 a3 p1a _ cap1 l1 W rfl i1 w2 w3)

set_option maxRecDepth 100000 in
theorem lifted (os : Os) (started : os.Started) (H : Type) (enc : TypeId × Value → H) :
    ReturnsInHanded {} Try.checked os 3 .any (Rows.spfLoopsSpec.pre6 enc Try.prog Try.f3 Rows.spfLoopsRow.domain false) (Rows.spfLoopsSpec.post enc Try.prog Try.f3 false true false false) := by
  refine returnsInHanded_of_change (C := Try.checked) own started (by kernel_rfl) Try.func3
    (ChangeSpec.witness6 (enc := enc) (C := Try.checked) false ⟨#[], #[.int .i64 0, .slice none 0 0, .int .i64 0, .int .i64 0], []⟩ 8 (by kernel_rfl) (by kernel_rfl) (by kernel_rfl) (by kernel_rfl)) ?_
  intro W base args ds gs before hval hW _ _
  exact contract H enc W base args ds gs before hval hW

theorem proved : Rows.SpfLoopsSaid :=
  OpenClaim.holds_of_wide 3 Try.f3 rfl rfl rfl rfl rfl rfl rfl ⟨rfl, rfl, rfl, rfl, rfl⟩ rfl rfl rfl rfl rfl (by kernel_rfl) Try.func3 (by kernel_rfl)
    (of_decide_eq_true (by kernel_rfl)) (by unfold Func.isWrapper; first | (rw [if_pos (by decide +kernel)]; kernel_rfl) | (rw [if_neg (by decide +kernel)]; exact ⟨rfl, rfl⟩))
    (fun os started H enc _ => lifted os started H enc)
end Go.Proofs.Ythicejpgfmhimaa.SpfLoopsL
