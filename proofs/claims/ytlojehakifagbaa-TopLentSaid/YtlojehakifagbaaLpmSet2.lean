/- Package lpm: Set of a new prefix. No statement is proved here. -/
import Derived.Test.YtlojehakifagbaaLpmSet1
namespace Go.Proofs.Ytlojehakifagbaa.Lpm
open Go.ChangeShapes Go.WideShapes Go.ChangeAt Go.RowKit Go.Sort Go.Proofs.Ytlojehakifagbaa.Kit Go.Proofs.Ytlojehakifagbaa.App Go.Proofs.Ytlojehakifagbaa.Cells Go.Proofs.Ytlojehakifagbaa.Cidr Go.Proofs.Ytlojehakifagbaa.CidrMath Go.Proofs.Ytlojehakifagbaa.RouteMath Go.Proofs.Ytlojehakifagbaa.Route
set_option linter.unusedVariables false
set_option maxRecDepth 20000

set_option maxHeartbeats 2000000 in
theorem set_full (g : Nat) (l : List Rt) (r : Rt) (w : World) (hT : Tab w g l) (hs : Sorted l) (hcode : code (key r) = 0) (hh : 0 ≤ r.hop ∧ r.hop ≤ 9) (hno : ¬ Is l (key r)) (hfull : l.length = 32) :
    Calls Try.prog 7 #[.pointer (some ⟨g, 0, none⟩), .agg #[.int .i64 r.adr, .int .i64 r.len, .int .i64 r.hop]] w fun e w' => e = .returned (er 4) ∧ Below w.heap.size w w' := by
  have CK := Lib.hid (fun W => check_any (key r) W 0 hcode.symm)
  unfold Cidr.val at CK
  rw [er_4]
  simp only [er_0] at CK
  obtain ⟨n, hn⟩ : ∃ n, n = l.length := ⟨_, rfl⟩
  have LS := Lib.hid (fun W (hT : Tab W g l) b (hb : BoxR W b r) => last_set g n l W hn hT (.pointer (some ⟨b, 0, none⟩)) (fLe (key r)) (fun x hx W' hB' => setC_any (key x) r b W' (hb.below hB' hb.1) _ rfl))
  have LT := Lib.hid (fun z hz => last_le hs (f := fLe (key r)) (fLe_iff (key r)) (n := z) hz)
  have HI := Lib.hid hno
  have HTt := Lib.hid (fun W (hb : Below w.heap.size w W) => hT.below hb hT.lt)
  have hgw := hT.lt
  have B0 := BoxR.new w r 36
  obtain ⟨k, hk⟩ : ∃ k, pos l (key r) = k := ⟨_, rfl⟩
  have h32 : l.length ≤ 32 := hT.len
  have HKP := Lib.hid (show k ≤ l.length from hk ▸ pos_le l (key r))
  have hkp := HKP.out
  obtain ⟨m, hm⟩ : ∃ m, l.length = k + m := ⟨l.length - k, by omega⟩

  have t1 : decide (r.hop < 0) = false := decide_eq_false (by omega)
  have t2 : decide (r.hop > 9) = false := decide_eq_false (by omega)
  have t5 : ((n : Int) == 32) = true := by rw [hn, hfull]; rfl
  have HK := Lib.hid hk
  have HNL := Lib.hid hn
  have HN32 := Lib.hid (show n ≤ 32 from by omega)
  have hnm : n = k + m := by omega
  by_cases hkz : 0 < k
  · obtain ⟨j, hj⟩ : ∃ j, k = j + 1 := ⟨k - 1, by omega⟩
    obtain ⟨y, hy⟩ : ∃ y : Int, y = (j : Int) := ⟨_, rfl⟩
    obtain ⟨⟨sa, sb, sh⟩, hsj⟩ : ∃ s, l[j]? = some s := ⟨_, List.getElem?_eq_getElem (by omega)⟩
    have hne : (sa == r.adr && sb == r.len) = false := by
      cases e : (sa == r.adr && sb == r.len) with
      | false => rfl
      | true =>
        rw [Bool.and_eq_true, beq_iff_eq, beq_iff_eq] at e
        exact absurd ((is_iff hs _).2 ⟨_, List.mem_of_getElem? hsj, by unfold key; simp only [e.1, e.2]⟩) hno
    have t3 : decide ((j : Int) ≥ 0) = true := decide_eq_true (by omega)
    have t4 : decide ((j : Int) < 32) = true := decide_eq_true (by omega)
    have HSJ := Lib.hid hsj
    have j32 : j < 32 := by omega
    have E : ∀ W, (Op.equalIn 10000 34 (.agg #[.int .i64 sa, .int .i64 sb]) (.agg #[.int .i64 r.adr, .int .i64 r.len])).run Try.prog W = .ok false W := fun W => by rw [eqX, hne]
    clear hne
    have HY := Lib.hid (show (j : Int) = (k : Int) - 1 from by omega)
    clear hT hs hn hcode hno hk hm h32 hh hnm hkp hkz hj hsj hy y
    obtain ⟨ra, rb, rh⟩ := r
    simp only [key] at CK B0 t1 t2 LT HK HI  E ⊢
    go_enter Try.func7, Try.ntmps7
    go_wp2_with fail
    refine (CK.out _).mono ?_; rintro _ w1 ⟨rfl, hg1⟩
    have hB1 : Below w.heap.size w w1 := lgr (balloc (brefl w) _) (by simp) hg1
    have BX1 := B0.below hg1.below B0.1
    have BX1h := Lib.hid BX1
    have L1 := Lib.hid (LS.out w1 (HTt.out w1 hB1) _ BX1)
    obtain ⟨_, c10, c11, c12⟩ := BX1
    simp only at c10 c11 c12
    clear hg1 B0
    go_wp2_with fail
    refine L1.out.mono ?_; rintro _ w2 ⟨z, rfl, hz, hz1, hz2, hb2⟩
    have hB2 := bcall hB1 hb2
    have BX2h := Lib.hid (BX1h.out.below hb2 BX1h.out.1)
    obtain ⟨_, c20, c21, c22⟩ := BX2h.out
    simp only at c20 c21 c22
    clear c10 c11 c12 BX1h
    rcases LT.out z hz with ⟨hyes, _⟩ | ⟨_, hzz⟩
    · exact absurd hyes HI.out
    · have hzy : z = (j : Int) := by rw [hzz, HK.out]; exact HY.out.symm
      subst hzy
      have hT2 := HTt.out w2 hB2
      have e0 := hT2.adr HSJ.out
      have e1 := hT2.plen HSJ.out
      simp only at e0 e1
      have c2 := hT2.count
      rw [← HNL.out] at c2
      have HB2 := Lib.hid hB2
      clear hz hb2 L1 hT2 hB2 hB1 hz1 hz2 hzz
      go_wp2_with fail
      go_quiet (fail)
      go_wp2_with fail
      go_ret
      exact ⟨rfl, below_drewN HB2.out _⟩
  · have hk0 : k = 0 := Nat.eq_zero_of_not_pos hkz
    obtain ⟨y, hy⟩ : ∃ y : Int, y = (k : Int) - 1 := ⟨_, rfl⟩
    have t3 : decide (y ≥ 0) = false := decide_eq_false (by omega)
    have HY := Lib.hid (show y = (k : Int) - 1 from by omega)
    clear hT hs hn hcode hno hk hm h32 hh hnm hkp hkz hk0 hy
    obtain ⟨ra, rb, rh⟩ := r
    simp only [key] at CK B0 t1 t2 LT HK HI   ⊢
    go_enter Try.func7, Try.ntmps7
    go_wp2_with fail
    refine (CK.out _).mono ?_; rintro _ w1 ⟨rfl, hg1⟩
    have hB1 : Below w.heap.size w w1 := lgr (balloc (brefl w) _) (by simp) hg1
    have BX1 := B0.below hg1.below B0.1
    have BX1h := Lib.hid BX1
    have L1 := Lib.hid (LS.out w1 (HTt.out w1 hB1) _ BX1)
    obtain ⟨_, c10, c11, c12⟩ := BX1
    simp only at c10 c11 c12
    clear hg1 B0
    go_wp2_with fail
    refine L1.out.mono ?_; rintro _ w2 ⟨z, rfl, hz, hz1, hz2, hb2⟩
    have hB2 := bcall hB1 hb2
    have BX2h := Lib.hid (BX1h.out.below hb2 BX1h.out.1)
    obtain ⟨_, c20, c21, c22⟩ := BX2h.out
    simp only at c20 c21 c22
    clear c10 c11 c12 BX1h
    rcases LT.out z hz with ⟨hyes, _⟩ | ⟨_, hzz⟩
    · exact absurd hyes HI.out
    · have hzy : z = y := by rw [hzz, HK.out]; exact HY.out.symm
      subst hzy
      have hT2 := HTt.out w2 hB2
      have c2 := hT2.count
      rw [← HNL.out] at c2
      have HB2 := Lib.hid hB2
      clear hz hb2 L1 hT2 hB2 hB1 hz1 hz2 hzz
      go_wp2_with fail
      go_quiet (fail)
      go_wp2_with fail
      go_ret
      exact ⟨rfl, below_drewN HB2.out _⟩
end Go.Proofs.Ytlojehakifagbaa.Lpm
