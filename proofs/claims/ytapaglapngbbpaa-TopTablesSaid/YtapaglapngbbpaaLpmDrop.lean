/- Package lpm: Drop. No statement is proved here. -/
import Derived.Test.YtapaglapngbbpaaLpmRaw
namespace Go.Proofs.Ytapaglapngbbpaa.Lpm
open Go.ChangeShapes Go.WideShapes Go.ChangeAt Go.RowKit Go.Sort Go.Proofs.Ytapaglapngbbpaa.Kit Go.Proofs.Ytapaglapngbbpaa.App Go.Proofs.Ytapaglapngbbpaa.Cells Go.Proofs.Ytapaglapngbbpaa.Cidr Go.Proofs.Ytapaglapngbbpaa.CidrMath Go.Proofs.Ytapaglapngbbpaa.RouteMath Go.Proofs.Ytapaglapngbbpaa.Route
set_option linter.unusedVariables false
set_option maxRecDepth 20000

theorem drop_bad (g : Nat) (p : Pfx) (w : World) (c : Int) (hc : c = code p) (h0 : c ≠ 0) :
    Calls Try.prog 16 #[.pointer (some ⟨g, 0, none⟩), .agg #[.int .i64 p.adr, .int .i64 p.len]] w fun e w' => e = .returned (er c) ∧ Below w.heap.size w w' := by
  have CK := Lib.hid (fun W => check_any p W c hc)
  unfold Cidr.val at CK
  rw [er_ne h0] at CK ⊢
  clear hc h0
  go_enter Try.func16, Try.ntmps16
  go_wp2_with fail
  refine (CK.out _).mono ?_; rintro _ w1 ⟨rfl, hg1⟩
  have hB1 : Below w.heap.size w w1 := lgr (balloc (brefl w) _) (by simp) hg1
  clear hg1
  go_wp2_with fail
  go_ret
  exact ⟨rfl, hB1⟩
set_option maxHeartbeats 1000000 in
theorem drop_none (g : Nat) (l : List Rt) (p : Pfx) (w : World) (hT : Tab w g l) (hs : Sorted l) (hcode : code p = 0) (hno : ¬ Is l p) :
    Calls Try.prog 16 #[.pointer (some ⟨g, 0, none⟩), .agg #[.int .i64 p.adr, .int .i64 p.len]] w fun e w' => e = .returned (er 5) ∧ Below w.heap.size w w' := by
  have CK := Lib.hid (fun W => check_any p W 0 hcode.symm)
  unfold Cidr.val at CK
  rw [er_5]
  simp only [er_0] at CK
  obtain ⟨n, hn⟩ : ∃ n, n = l.length := ⟨_, rfl⟩
  have LS := Lib.hid (fun W (hT : Tab W g l) b (hb : Box W b p) => last_drop g n l W hn hT (.pointer (some ⟨b, 0, none⟩)) (fEq p) (fun x hx W' hB' => dropC_any (key x) p b W' (hb.below hB' hb.1) _ rfl))
  have LT := Lib.hid (fun z hz => last_eq hs (f := fEq p) (fEq_iff p) (n := z) hz)
  have HNO := Lib.hid hno
  have HTt := Lib.hid (fun W (hb : Below w.heap.size w W) => hT.below hb hT.lt)
  have B0 := Box.new w p 24
  obtain ⟨a, b⟩ := p
  simp only at B0 CK ⊢
  clear hT hs hn hcode hno
  go_enter Try.func16, Try.ntmps16
  go_wp2_with fail
  refine (CK.out _).mono ?_; rintro _ w1 ⟨rfl, hg1⟩
  have hB1 : Below w.heap.size w w1 := lgr (balloc (brefl w) _) (by simp) hg1
  have L1 := Lib.hid (LS.out w1 (HTt.out w1 hB1) _ (B0.below hg1.below B0.1))
  clear hg1 B0
  go_wp2_with fail
  refine L1.out.mono ?_; rintro _ w2 ⟨z, rfl, hz, hz1, hz2, hb2⟩
  have hB2 := bcall hB1 hb2
  rcases LT.out z hz with ⟨hi, _⟩ | ⟨_, rfl⟩
  · exact absurd hi HNO.out
  · clear hz hb2 L1
    go_wp2_with fail
    go_ret
    exact ⟨rfl, hB2⟩
set_option maxHeartbeats 1000000 in
theorem drop_ok (g : Nat) (l : List Rt) (p : Pfx) (w : World) (hT : Tab w g l) (hs : Sorted l) (hcode : code p = 0) (hyes : Is l p) :
    Calls Try.prog 16 #[.pointer (some ⟨g, 0, none⟩), .agg #[.int .i64 p.adr, .int .i64 p.len]] w fun e w' => e = .returned (er 0) ∧ Tab w' g (dropR l p) ∧ w.grownBy w' (some g) := by
  have CK := Lib.hid (fun W => check_any p W 0 hcode.symm)
  unfold Cidr.val at CK
  rw [er_0]
  simp only [er_0] at CK
  obtain ⟨n, hn⟩ : ∃ n, n = l.length := ⟨_, rfl⟩
  have LS := Lib.hid (fun W (hT : Tab W g l) b (hb : Box W b p) => last_drop g n l W hn hT (.pointer (some ⟨b, 0, none⟩)) (fEq p) (fun x hx W' hB' => dropC_any (key x) p b W' (hb.below hB' hb.1) _ rfl))
  have LT := Lib.hid (fun z hz => last_eq hs (f := fEq p) (fEq_iff p) (n := z) hz)
  have HY := Lib.hid hyes
  have HTt := Lib.hid (fun W (hb : Below w.heap.size w W) => hT.below hb hT.lt)
  have hgw := hT.lt
  have B0 := Box.new w p 24
  obtain ⟨k, hk⟩ : ∃ k, pos l p = k := ⟨_, rfl⟩
  have hkl : k < l.length := by
    obtain ⟨r, hr, _⟩ := hyes
    rw [hk] at hr; exact lt_len hr
  obtain ⟨m, hm⟩ : ∃ m, l.length = k + 1 + m := ⟨l.length - (k + 1), by omega⟩
  have h32 : l.length ≤ 32 := hT.len
  -- the list, parted
  have hpart : l = l.take k ++ l[k] :: l.drop (k + 1) := by
    conv => lhs; rw [← List.take_append_drop k l, List.drop_eq_getElem_cons hkl]
  have hta : (l.take k).length = k := by rw [List.length_take]; omega
  have htb : (l.drop (k + 1)).length = m := by rw [List.length_drop]; omega
  obtain ⟨e, he⟩ : ∃ e, e = k + m := ⟨_, rfl⟩
  have HMV := Lib.hid (fun (rest : List Rt) => show (mv (l ++ rest) k (k + 1) m).set e ⟨0, 0, 0⟩ = dropR l p ++ ⟨0, 0, 0⟩ :: rest from by
    have q := mv_out (l.take k) (l.drop (k + 1)) rest l[k] ⟨0, 0, 0⟩
    rw [← hpart, hta, htb] at q
    rw [he, q]
    unfold dropR
    rw [hk])
  have HDL := Lib.hid (show ((n : Int) - 1) = (dropR l p).length from by
    unfold dropR
    rw [hk, List.length_append, hta, htb]; omega)
  have hnk : (n : Int) = ((k + 1 : Nat) : Int) + (m : Int) := by omega
  obtain ⟨d1, dc, hd1, hd2⟩ := arr_l g k (by omega) (k : Int) rfl
  obtain ⟨s1, sc, hs1, hs2⟩ := arr_lh g (k + 1) m (by omega) ((k : Int) + 1) (n : Int) (by omega) hnk
  have q1 : IntKind.i64.wrap ((k : Int) + 1) = (k : Int) + 1 := by rw [IntKind.wrap_i64]; omega
  have q2 : IntKind.i64.wrap ((n : Int) - 1) = (n : Int) - 1 := by rw [IntKind.wrap_i64]; omega
  have Q3 := Lib.hid (show (n : Int) - 1 = (e : Int) from by omega)
  have he32 : e < 32 := by omega
  have he0 : (0 : Int) ≤ (e : Int) := by omega
  have he1 : (e : Int) < 32 := by omega
  have he2 : (e : Int) ≤ 31 := by omega
  have HN := Lib.hid (show k + 1 + m ≤ 32 ∧ n = k + 1 + m from by omega)
  have HD2 := Lib.hid hd2
  have HS2 := Lib.hid hs2
  have HNL := Lib.hid hn
  obtain ⟨a, b⟩ := p
  simp only at B0 CK ⊢
  have HK := Lib.hid hk
  clear hT hs hn hcode hyes he hk hm hpart hta htb hnk hd2 hs2 hkl h32
  go_enter Try.func16, Try.ntmps16
  go_wp2_with fail
  refine (CK.out _).mono ?_; rintro _ w1 ⟨rfl, hg1⟩
  have hB1 : Below w.heap.size w w1 := lgr (balloc (brefl w) _) (by simp) hg1
  have L1 := Lib.hid (LS.out w1 (HTt.out w1 hB1) _ (B0.below hg1.below B0.1))
  clear hg1 B0
  go_wp2_with fail
  refine L1.out.mono ?_; rintro _ w2 ⟨z, rfl, hz, hz1, hz2, hb2⟩
  have hB2 := bcall hB1 hb2
  rcases LT.out z hz with ⟨_, rfl, _⟩ | ⟨hi, _⟩
  · rw [HK.out]
    have hT2 := HTt.out w2 hB2
    have c2 := hT2.count
    rw [← HNL.out] at c2
    obtain ⟨rest, hr1, hR2⟩ := hT2.raw
    rw [← HNL.out] at hR2
    have HR2 := Lib.hid hR2.drew
    have HB2 := Lib.hid hB2
    have t0 : decide ((k : Int) < 0) = false := decide_eq_false (by omega)
    clear hz hb2 L1 hT2 hr1 hR2 hB2 hB1 hz1 hz2
    go_wp2_with fail
    go_region_held3 (fun W' => W'.cell? ⟨g, 96, none⟩ = some (.int .i64 (n : Int)))
      (first
        | exact c2
        | exact hR3.count
        | go_keep)
      (first
        | (refine step_copyR rfl (.tmp 22) (.tmp 32) rfl HR2.out k (k + 1) m (32 - k) dc m sc d1 s1 (by have := HN.out; omega) (by have := HN.out; omega) (fun h => HD2.out (by have := HN.out; omega)) HS2.out (by have := HN.out; omega) rfl rfl ?_
           intro w3 hR3 hg3))
    have c3 := hR3.count
    have f3 := hR3.frozen 96
    have HG3 := Lib.hid (grown_trans (grown_trans (grown_below HB2.out (Nat.le_refl _)) (grown_drew w2 (some g))) hg3)
    have HR3 := Lib.hid hR3
    clear hR3 hg3 c2
    go_wp2_with fail
    have hR4 := HR3.out.recount ((n : Int) - 1)
    have HG4 := Lib.hid (grown_trans HG3.out (grown_set w3 g 96 (.int .i64 ((n : Int) - 1))))
    generalize w3.setCell ⟨g, 96, none⟩ (.int .i64 ((n : Int) - 1)) = w4 at hR4 HG4 ⊢
    have c4 := hR4.count
    rw [Q3.out] at c4
    obtain ⟨x, _, x0, x1, x2⟩ := hR4.cells e he32
    have f0 := hR4.frozen (e * 3)
    have f1 := hR4.frozen (e * 3 + 1)
    have f2 := hR4.frozen (e * 3 + 2)
    have HR5 := Lib.hid (show RawT (((w4.setCell ⟨g, e * 3, none⟩ (.int .i64 0)).setCell ⟨g, e * 3 + 1, none⟩ (.int .i64 0)).setCell ⟨g, e * 3 + 2, none⟩ (.int .i64 0)).drew g _ _ from hR4.store e he32 0 0 0)
    have HG5 := Lib.hid (grown_trans HG4.out (grown_store w4 g e (.int .i64 0) (.int .i64 0) (.int .i64 0)))
    clear hR4 c3 f3
    go_region_held3 (fun W' => W'.cell? ⟨g, 96, none⟩ = some (.int .i64 (e : Int)))
      (first
        | exact c4
        | exact (HR5.out.count.trans (by rw [Q3.out]))
        | go_keep)
      (first
        | fail)
    go_wp2_with fail
    go_ret
    refine ⟨rfl, ?_, HG5.out⟩
    have h5 := HR5.out
    rw [HMV.out] at h5
    exact h5.tab HDL.out
  · exact absurd HY.out hi
end Go.Proofs.Ytapaglapngbbpaa.Lpm
