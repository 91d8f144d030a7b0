/- Package lpm: Set of a new prefix. No statement is proved here. -/
import Derived.Test.YtlojehakifagbaaLpmSet1
namespace Go.Proofs.Ytlojehakifagbaa.Lpm
open Go.ChangeShapes Go.WideShapes Go.ChangeAt Go.RowKit Go.Sort Go.Proofs.Ytlojehakifagbaa.Kit Go.Proofs.Ytlojehakifagbaa.App Go.Proofs.Ytlojehakifagbaa.Cells Go.Proofs.Ytlojehakifagbaa.Cidr Go.Proofs.Ytlojehakifagbaa.CidrMath Go.Proofs.Ytlojehakifagbaa.RouteMath Go.Proofs.Ytlojehakifagbaa.Route
set_option linter.unusedVariables false
set_option maxRecDepth 20000

set_option maxHeartbeats 2000000 in
theorem set_new (g : Nat) (l : List Rt) (r : Rt) (w : World) (hT : Tab w g l) (hs : Sorted l) (hcode : code (key r) = 0) (hh : 0 ≤ r.hop ∧ r.hop ≤ 9) (hno : ¬ Is l (key r)) (hfull : l.length < 32) :
    Calls Try.prog 7 #[.pointer (some ⟨g, 0, none⟩), .agg #[.int .i64 r.adr, .int .i64 r.len, .int .i64 r.hop]] w fun e w' => e = .returned (er 0) ∧ Tab w' g (setR l r false) ∧ w.grownBy w' (some g) := by
  have CK := Lib.hid (fun W => check_any (key r) W 0 hcode.symm)
  unfold Cidr.val at CK
  rw [er_0]
  simp only [er_0] at CK
  obtain ⟨n, hn⟩ : ∃ n, n = l.length := ⟨_, rfl⟩
  have LS := Lib.hid (fun W (hT : Tab W g l) b (hb : BoxR W b r) => last_set g n l W hn hT (.pointer (some ⟨b, 0, none⟩)) (fLe (key r)) (fun x hx W' hB' => setC_any (key x) r b W' (hb.below hB' hb.1) _ rfl))
  have LT := Lib.hid (fun z hz => last_le hs (f := fLe (key r)) (fLe_iff (key r)) (n := z) hz)
  have HI := Lib.hid hno
  have HTt := Lib.hid (fun W (hb : Below w.heap.size w W) => hT.below hb hT.lt)
  have hgw := hT.lt
  have B0 := BoxR.new w r 36
  obtain ⟨k, hk⟩ : ∃ k, pos l (key r) = k := ⟨_, rfl⟩
  have h32 : l.length ≤ 32 := hT.len
  have HKP := Lib.hid (show k ≤ l.length from hk ▸ pos_le l (key r))
  have hkp := HKP.out
  obtain ⟨m, hm⟩ : ∃ m, l.length = k + m := ⟨l.length - k, by omega⟩
  have hta : (l.take k).length = k := by rw [List.length_take]; omega
  have htb : (l.drop k).length = m := by rw [List.length_drop]; omega
  have HMV := Lib.hid (fun (rest : List Rt) (h : 0 < rest.length) => show (mv (l ++ rest) (k + 1) k m).set k r = setR l r false ++ rest.drop 1 from by
    have q := mv_in (l.take k) (l.drop k) rest r h
    rw [List.take_append_drop, hta, htb] at q
    rw [q]
    unfold setR
    rw [hk, if_neg (by simp), Nat.add_zero])
  have HLN := Lib.hid (show (n : Int) + 1 = (setR l r false).length from by
    rw [set_len l r false ⟨fun h => by simp at h, fun h => absurd h hno⟩, if_neg (by simp), hn]; omega)
  have HNM := Lib.hid (show n = k + m ∧ n ≤ 31 from by omega)
  clear hta htb
  have t1 : decide (r.hop < 0) = false := decide_eq_false (by omega)
  have t2 : decide (r.hop > 9) = false := decide_eq_false (by omega)
  have t5 : ((n : Int) == 32) = false := by rw [beq_eq_false_iff_ne]; omega
  have HK := Lib.hid hk
  have HNL := Lib.hid hn
  have HN32 := Lib.hid (show n ≤ 32 from by omega)
  have hnm : n = k + m := by omega
  by_cases hkz : 0 < k
  · obtain ⟨j, hj⟩ : ∃ j, k = j + 1 := ⟨k - 1, by omega⟩
    obtain ⟨y, hy⟩ : ∃ y : Int, y = (j : Int) := ⟨_, rfl⟩
    obtain ⟨⟨sa, sb, sh⟩, hsj⟩ : ∃ s, l[j]? = some s := ⟨_, List.getElem?_eq_getElem (by omega)⟩
    have hne : (sa == r.adr && sb == r.len) = false := by
      cases e : (sa == r.adr && sb == r.len) with
      | false => rfl
      | true =>
        rw [Bool.and_eq_true, beq_iff_eq, beq_iff_eq] at e
        exact absurd ((is_iff hs _).2 ⟨_, List.mem_of_getElem? hsj, by unfold key; simp only [e.1, e.2]⟩) hno
    have t3 : decide ((j : Int) ≥ 0) = true := decide_eq_true (by omega)
    have t4 : decide ((j : Int) < 32) = true := decide_eq_true (by omega)
    have HSJ := Lib.hid hsj
    have j32 : j < 32 := by omega
    have E : ∀ W, (Op.equalIn 10000 34 (.agg #[.int .i64 sa, .int .i64 sb]) (.agg #[.int .i64 r.adr, .int .i64 r.len])).run Try.prog W = .ok false W := fun W => by rw [eqX, hne]
    clear hne
    have HY := Lib.hid (show (j : Int) = (k : Int) - 1 from by omega)
    have q2 : IntKind.i64.wrap ((j : Int) + 2) = (k : Int) + 1 := by rw [IntKind.wrap_i64]; omega
    have q1 : IntKind.i64.wrap ((j : Int) + 1) = (k : Int) := by rw [IntKind.wrap_i64]; omega
    have q3 : IntKind.i64.wrap ((n : Int) + 1) = (n : Int) + 1 := by rw [IntKind.wrap_i64]; omega
    obtain ⟨d1, dc, hd1, hd2⟩ := arr_l g (k + 1) (by omega) ((k : Int) + 1) (by omega)
    rw [show 32 - (k + 1) = 31 - k by omega] at hd1 hd2
    obtain ⟨s1, sc, hs1, hs2⟩ := arr_lh g k m (by omega) (k : Int) (n : Int) rfl (by omega)
    have HD2 := Lib.hid hd2
    have HS2 := Lib.hid hs2
    have HN := Lib.hid (show k + m ≤ 31 from by omega)
    have p0 : (0 : Int) ≤ (k : Int) := by omega
    have p1 : (k : Int) < 32 := by omega
    have p2 : (k : Int) ≤ 31 := by omega
    have k32 : k < 32 := by omega
    clear hd2 hs2
    clear hT hs hn hcode hno hk hm h32 hh hnm hkp hkz hj hsj hy y
    obtain ⟨ra, rb, rh⟩ := r
    simp only [key] at CK B0 t1 t2 LT HK HI  E ⊢
    go_enter Try.func7, Try.ntmps7
    go_wp2_with fail
    refine (CK.out _).mono ?_; rintro _ w1 ⟨rfl, hg1⟩
    have hB1 : Below w.heap.size w w1 := lgr (balloc (brefl w) _) (by simp) hg1
    have BX1 := B0.below hg1.below B0.1
    have BX1h := Lib.hid BX1
    have L1 := Lib.hid (LS.out w1 (HTt.out w1 hB1) _ BX1)
    obtain ⟨_, c10, c11, c12⟩ := BX1
    simp only at c10 c11 c12
    clear hg1 B0
    go_wp2_with fail
    refine L1.out.mono ?_; rintro _ w2 ⟨z, rfl, hz, hz1, hz2, hb2⟩
    have hB2 := bcall hB1 hb2
    have BX2h := Lib.hid (BX1h.out.below hb2 BX1h.out.1)
    obtain ⟨_, c20, c21, c22⟩ := BX2h.out
    simp only at c20 c21 c22
    clear c10 c11 c12 BX1h
    rcases LT.out z hz with ⟨hyes, _⟩ | ⟨_, hzz⟩
    · exact absurd hyes HI.out
    · have hzy : z = (j : Int) := by rw [hzz, HK.out]; exact HY.out.symm
      subst hzy
      have hT2 := HTt.out w2 hB2
      have e0 := hT2.adr HSJ.out
      have e1 := hT2.plen HSJ.out
      simp only at e0 e1
      have c2 := hT2.count
      rw [← HNL.out] at c2
      have HB2 := Lib.hid hB2
      obtain ⟨rest, hr1, hR2⟩ := hT2.raw
      rw [← HNL.out] at hR2 hr1
      have HR2 := Lib.hid hR2
      have HR1 := Lib.hid (show 0 < rest.length from by have := HN.out; have := HNM.out; omega)
      clear hz hb2 L1 hT2 hB2 hB1 hz1 hz2 hzz hR2 hr1
      go_wp2_with fail
      go_quiet (fail)
      go_wp2_with fail
      have hR3 : RawT (w2.drewN nq) g (l ++ rest) n := HR2.out
      have HG3 := Lib.hid (grown_trans (grown_below (row := some g) HB2.out (Nat.le_refl _)) (grown_drewN w2 (some g) nq))
      have C3 := Lib.hid (show (w2.drewN nq).cell? ⟨w.heap.size, 0, none⟩ = some (.int .i64 ra) ∧ (w2.drewN nq).cell? ⟨w.heap.size, 1, none⟩ = some (.int .i64 rb) ∧ (w2.drewN nq).cell? ⟨w.heap.size, 2, none⟩ = some (.int .i64 rh) from ⟨c20, c21, c22⟩)
      clear c2 e0 e1 c20 c21 c22 BX2h HR2 HB2
      generalize w2.drewN nq = w4 at hR3 HG3 C3 ⊢
      have c4 := hR3.count
      have HR4 := Lib.hid hR3.drew
      clear hR3
      go_region_held3 (fun W' => W'.cell? ⟨g, 96, none⟩ = some (.int .i64 (n : Int)))
        (first
          | exact c4
          | exact hR3.count
          | go_keep)
        (first
          | (refine step_copyR rfl (.tmp 56) (.tmp 66) rfl HR4.out (k + 1) k m (31 - k) dc m sc d1 s1 (by have := HN.out; omega) (by have := HN.out; omega) (fun h => HD2.out (by have := HN.out; omega)) HS2.out (by have := HN.out; omega) rfl rfl ?_
             intro w3 hR3 hg3))
      have HG4 := Lib.hid (grown_trans (grown_trans HG3.out (grown_drew w4 (some g))) hg3)
      have keep : ∀ (j : Nat) (v : Value), w4.cell? ⟨w.heap.size, j, none⟩ = some v → w3.cell? ⟨w.heap.size, j, none⟩ = some v := fun j v h =>
        (World.cell?_of_block (a := ⟨w.heap.size, j, none⟩) (hg3.block w.heap.size (cell_in h) (fun e => absurd (Option.some.inj e) (by omega)))).trans h
      have c30 := keep 0 _ C3.out.1
      have c31 := keep 1 _ C3.out.2.1
      have c32 := keep 2 _ C3.out.2.2
      clear keep hg3 c4 C3 HR4
      obtain ⟨x, _, x0, x1, x2⟩ := hR3.cells k k32
      have f0 := hR3.frozen (k * 3)
      have f1 := hR3.frozen (k * 3 + 1)
      have f2 := hR3.frozen (k * 3 + 2)
      have hR5 := (show RawT (((w3.setCell ⟨g, k * 3, none⟩ (.int .i64 ra)).setCell ⟨g, k * 3 + 1, none⟩ (.int .i64 rb)).setCell ⟨g, k * 3 + 2, none⟩ (.int .i64 rh)).drew g _ _ from hR3.store k k32 ra rb rh)
      rw [HMV.out rest HR1.out] at hR5
      have HR5 := Lib.hid hR5
      have HG5 := Lib.hid (grown_trans HG4.out (grown_store w3 g k (.int .i64 ra) (.int .i64 rb) (.int .i64 rh)))
      have HC := Lib.hid (fun (j : Nat) (v : Value) (h : w3.cell? ⟨w.heap.size, j, none⟩ = some v) => show (((w3.setCell ⟨g, k * 3, none⟩ (.int .i64 ra)).setCell ⟨g, k * 3 + 1, none⟩ (.int .i64 rb)).setCell ⟨g, k * 3 + 2, none⟩ (.int .i64 rh)).drew.cell? ⟨w.heap.size, j, none⟩ = some v from
        (World.cell?_of_block (a := ⟨w.heap.size, j, none⟩) ((grown_store w3 g k (.int .i64 ra) (.int .i64 rb) (.int .i64 rh)).block w.heap.size (cell_in h) (fun e => absurd (Option.some.inj e) (by omega)))).trans h)
      clear hR3 hR5
      go_wp2_with fail
      go_region_held3 (fun W' => W'.cell? ⟨w.heap.size, 0, none⟩ = some (.int .i64 ra) ∧ W'.cell? ⟨w.heap.size, 1, none⟩ = some (.int .i64 rb) ∧ W'.cell? ⟨w.heap.size, 2, none⟩ = some (.int .i64 rh))
        (first
          | exact ⟨c30, c31, c32⟩
          | exact ⟨HC.out 0 _ c30, HC.out 1 _ c31, HC.out 2 _ c32⟩
          | go_keep)
        (first
          | fail)
      clear HC c30 c31 c32 x0 x1 x2 f0 f1 f2
      generalize (((w3.setCell ⟨g, k * 3, none⟩ (.int .i64 ra)).setCell ⟨g, k * 3 + 1, none⟩ (.int .i64 rb)).setCell ⟨g, k * 3 + 2, none⟩ (.int .i64 rh)).drew = w5 at HR5 HG5 ⊢
      have c5 := HR5.out.count
      have f5 := HR5.out.frozen 96
      go_wp2_with fail
      go_ret
      refine ⟨rfl, (HR5.out.recount ((n : Int) + 1)).tab HLN.out, grown_trans HG5.out (grown_set w5 g 96 _)⟩
  · have hk0 : k = 0 := Nat.eq_zero_of_not_pos hkz
    obtain ⟨y, hy⟩ : ∃ y : Int, y = (k : Int) - 1 := ⟨_, rfl⟩
    have t3 : decide (y ≥ 0) = false := decide_eq_false (by omega)
    have HY := Lib.hid (show y = (k : Int) - 1 from by omega)
    have q2 : IntKind.i64.wrap (y + 2) = (k : Int) + 1 := by rw [IntKind.wrap_i64]; omega
    have q1 : IntKind.i64.wrap (y + 1) = (k : Int) := by rw [IntKind.wrap_i64]; omega
    have q3 : IntKind.i64.wrap ((n : Int) + 1) = (n : Int) + 1 := by rw [IntKind.wrap_i64]; omega
    obtain ⟨d1, dc, hd1, hd2⟩ := arr_l g (k + 1) (by omega) ((k : Int) + 1) (by omega)
    rw [show 32 - (k + 1) = 31 - k by omega] at hd1 hd2
    obtain ⟨s1, sc, hs1, hs2⟩ := arr_lh g k m (by omega) (k : Int) (n : Int) rfl (by omega)
    have HD2 := Lib.hid hd2
    have HS2 := Lib.hid hs2
    have HN := Lib.hid (show k + m ≤ 31 from by omega)
    have p0 : (0 : Int) ≤ (k : Int) := by omega
    have p1 : (k : Int) < 32 := by omega
    have p2 : (k : Int) ≤ 31 := by omega
    have k32 : k < 32 := by omega
    clear hd2 hs2
    clear hT hs hn hcode hno hk hm h32 hh hnm hkp hkz hk0 hy
    obtain ⟨ra, rb, rh⟩ := r
    simp only [key] at CK B0 t1 t2 LT HK HI   ⊢
    go_enter Try.func7, Try.ntmps7
    go_wp2_with fail
    refine (CK.out _).mono ?_; rintro _ w1 ⟨rfl, hg1⟩
    have hB1 : Below w.heap.size w w1 := lgr (balloc (brefl w) _) (by simp) hg1
    have BX1 := B0.below hg1.below B0.1
    have BX1h := Lib.hid BX1
    have L1 := Lib.hid (LS.out w1 (HTt.out w1 hB1) _ BX1)
    obtain ⟨_, c10, c11, c12⟩ := BX1
    simp only at c10 c11 c12
    clear hg1 B0
    go_wp2_with fail
    refine L1.out.mono ?_; rintro _ w2 ⟨z, rfl, hz, hz1, hz2, hb2⟩
    have hB2 := bcall hB1 hb2
    have BX2h := Lib.hid (BX1h.out.below hb2 BX1h.out.1)
    obtain ⟨_, c20, c21, c22⟩ := BX2h.out
    simp only at c20 c21 c22
    clear c10 c11 c12 BX1h
    rcases LT.out z hz with ⟨hyes, _⟩ | ⟨_, hzz⟩
    · exact absurd hyes HI.out
    · have hzy : z = y := by rw [hzz, HK.out]; exact HY.out.symm
      subst hzy
      have hT2 := HTt.out w2 hB2
      have c2 := hT2.count
      rw [← HNL.out] at c2
      have HB2 := Lib.hid hB2
      obtain ⟨rest, hr1, hR2⟩ := hT2.raw
      rw [← HNL.out] at hR2 hr1
      have HR2 := Lib.hid hR2
      have HR1 := Lib.hid (show 0 < rest.length from by have := HN.out; have := HNM.out; omega)
      clear hz hb2 L1 hT2 hB2 hB1 hz1 hz2 hzz hR2 hr1
      go_wp2_with fail
      go_quiet (fail)
      go_wp2_with fail
      have hR3 : RawT (w2.drewN nq) g (l ++ rest) n := HR2.out
      have HG3 := Lib.hid (grown_trans (grown_below (row := some g) HB2.out (Nat.le_refl _)) (grown_drewN w2 (some g) nq))
      have C3 := Lib.hid (show (w2.drewN nq).cell? ⟨w.heap.size, 0, none⟩ = some (.int .i64 ra) ∧ (w2.drewN nq).cell? ⟨w.heap.size, 1, none⟩ = some (.int .i64 rb) ∧ (w2.drewN nq).cell? ⟨w.heap.size, 2, none⟩ = some (.int .i64 rh) from ⟨c20, c21, c22⟩)
      clear c2 c20 c21 c22 BX2h HR2 HB2
      generalize w2.drewN nq = w4 at hR3 HG3 C3 ⊢
      have c4 := hR3.count
      have HR4 := Lib.hid hR3.drew
      clear hR3
      go_region_held3 (fun W' => W'.cell? ⟨g, 96, none⟩ = some (.int .i64 (n : Int)))
        (first
          | exact c4
          | exact hR3.count
          | go_keep)
        (first
          | (refine step_copyR rfl (.tmp 56) (.tmp 66) rfl HR4.out (k + 1) k m (31 - k) dc m sc d1 s1 (by have := HN.out; omega) (by have := HN.out; omega) (fun h => HD2.out (by have := HN.out; omega)) HS2.out (by have := HN.out; omega) rfl rfl ?_
             intro w3 hR3 hg3))
      have HG4 := Lib.hid (grown_trans (grown_trans HG3.out (grown_drew w4 (some g))) hg3)
      have keep : ∀ (j : Nat) (v : Value), w4.cell? ⟨w.heap.size, j, none⟩ = some v → w3.cell? ⟨w.heap.size, j, none⟩ = some v := fun j v h =>
        (World.cell?_of_block (a := ⟨w.heap.size, j, none⟩) (hg3.block w.heap.size (cell_in h) (fun e => absurd (Option.some.inj e) (by omega)))).trans h
      have c30 := keep 0 _ C3.out.1
      have c31 := keep 1 _ C3.out.2.1
      have c32 := keep 2 _ C3.out.2.2
      clear keep hg3 c4 C3 HR4
      obtain ⟨x, _, x0, x1, x2⟩ := hR3.cells k k32
      have f0 := hR3.frozen (k * 3)
      have f1 := hR3.frozen (k * 3 + 1)
      have f2 := hR3.frozen (k * 3 + 2)
      have hR5 := (show RawT (((w3.setCell ⟨g, k * 3, none⟩ (.int .i64 ra)).setCell ⟨g, k * 3 + 1, none⟩ (.int .i64 rb)).setCell ⟨g, k * 3 + 2, none⟩ (.int .i64 rh)).drew g _ _ from hR3.store k k32 ra rb rh)
      rw [HMV.out rest HR1.out] at hR5
      have HR5 := Lib.hid hR5
      have HG5 := Lib.hid (grown_trans HG4.out (grown_store w3 g k (.int .i64 ra) (.int .i64 rb) (.int .i64 rh)))
      have HC := Lib.hid (fun (j : Nat) (v : Value) (h : w3.cell? ⟨w.heap.size, j, none⟩ = some v) => show (((w3.setCell ⟨g, k * 3, none⟩ (.int .i64 ra)).setCell ⟨g, k * 3 + 1, none⟩ (.int .i64 rb)).setCell ⟨g, k * 3 + 2, none⟩ (.int .i64 rh)).drew.cell? ⟨w.heap.size, j, none⟩ = some v from
        (World.cell?_of_block (a := ⟨w.heap.size, j, none⟩) ((grown_store w3 g k (.int .i64 ra) (.int .i64 rb) (.int .i64 rh)).block w.heap.size (cell_in h) (fun e => absurd (Option.some.inj e) (by omega)))).trans h)
      clear hR3 hR5
      go_wp2_with fail
      go_region_held3 (fun W' => W'.cell? ⟨w.heap.size, 0, none⟩ = some (.int .i64 ra) ∧ W'.cell? ⟨w.heap.size, 1, none⟩ = some (.int .i64 rb) ∧ W'.cell? ⟨w.heap.size, 2, none⟩ = some (.int .i64 rh))
        (first
          | exact ⟨c30, c31, c32⟩
          | exact ⟨HC.out 0 _ c30, HC.out 1 _ c31, HC.out 2 _ c32⟩
          | go_keep)
        (first
          | fail)
      clear HC c30 c31 c32 x0 x1 x2 f0 f1 f2
      generalize (((w3.setCell ⟨g, k * 3, none⟩ (.int .i64 ra)).setCell ⟨g, k * 3 + 1, none⟩ (.int .i64 rb)).setCell ⟨g, k * 3 + 2, none⟩ (.int .i64 rh)).drew = w5 at HR5 HG5 ⊢
      have c5 := HR5.out.count
      have f5 := HR5.out.frozen 96
      go_wp2_with fail
      go_ret
      refine ⟨rfl, (HR5.out.recount ((n : Int) + 1)).tab HLN.out, grown_trans HG5.out (grown_set w5 g 96 _)⟩
end Go.Proofs.Ytlojehakifagbaa.Lpm
