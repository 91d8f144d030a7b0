/- Package lpm: Set of a prefix that it has. No statement is proved here. -/
import Derived.Test.YtlojehakifagbaaLpmRaw
namespace Go.Proofs.Ytlojehakifagbaa.Lpm
open Go.ChangeShapes Go.WideShapes Go.ChangeAt Go.RowKit Go.Sort Go.Proofs.Ytlojehakifagbaa.Kit Go.Proofs.Ytlojehakifagbaa.App Go.Proofs.Ytlojehakifagbaa.Cells Go.Proofs.Ytlojehakifagbaa.Cidr Go.Proofs.Ytlojehakifagbaa.CidrMath Go.Proofs.Ytlojehakifagbaa.RouteMath Go.Proofs.Ytlojehakifagbaa.Route
set_option linter.unusedVariables false
set_option maxRecDepth 20000

theorem grown_drewN (W : World) (row : Option Nat) (q : Nat) : W.grownBy (W.drewN q) row := ⟨rfl, rfl, rfl, Nat.le_refl _, fun _ _ _ => rfl⟩
set_option maxHeartbeats 1000000 in
theorem set_old (g : Nat) (l : List Rt) (r : Rt) (w : World) (hT : Tab w g l) (hs : Sorted l) (hcode : code (key r) = 0) (hh : 0 ≤ r.hop ∧ r.hop ≤ 9) (hi : Is l (key r)) :
    Calls Try.prog 7 #[.pointer (some ⟨g, 0, none⟩), .agg #[.int .i64 r.adr, .int .i64 r.len, .int .i64 r.hop]] w fun e w' => e = .returned (er 0) ∧ Tab w' g (setR l r true) ∧ w.grownBy w' (some g) := by
  have CK := Lib.hid (fun W => check_any (key r) W 0 hcode.symm)
  unfold Cidr.val at CK
  rw [er_0]
  simp only [er_0] at CK
  obtain ⟨n, hn⟩ : ∃ n, n = l.length := ⟨_, rfl⟩
  have LS := Lib.hid (fun W (hT : Tab W g l) b (hb : BoxR W b r) => last_set g n l W hn hT (.pointer (some ⟨b, 0, none⟩)) (fLe (key r)) (fun x hx W' hB' => setC_any (key x) r b W' (hb.below hB' hb.1) _ rfl))
  have LT := Lib.hid (fun z hz => last_le hs (f := fLe (key r)) (fLe_iff (key r)) (n := z) hz)
  have HI := Lib.hid hi
  have HTt := Lib.hid (fun W (hb : Below w.heap.size w W) => hT.below hb hT.lt)
  have hgw := hT.lt
  have B0 := BoxR.new w r 36
  obtain ⟨k, hk⟩ : ∃ k, pos l (key r) = k := ⟨_, rfl⟩
  have h32 : l.length ≤ 32 := hT.len
  obtain ⟨s, hsk, hsr⟩ : ∃ s, l[k]? = some s ∧ key s = key r := by
    obtain ⟨s, h1, h2⟩ := hi
    rw [hk] at h1
    exact ⟨s, h1, h2⟩
  have hkl := lt_len hsk
  have HST := Lib.hid (fun (rest : List Rt) => show (l ++ rest).set k r = setR l r true ++ rest from by
    unfold setR
    rw [List.set_append_left _ _ hkl, List.set_eq_take_append_cons_drop, if_pos hkl, hk, if_pos rfl])
  have HLN := Lib.hid (show (n : Int) = (setR l r true).length from by
    rw [set_len l r true ⟨fun _ => hi, fun _ => rfl⟩, if_pos rfl, hn]; rfl)
  have k32 : k < 32 := by omega
  have HSK := Lib.hid hsk
  have HSR := Lib.hid hsr
  have HNL := Lib.hid hn
  have t1 : decide (r.hop < 0) = false := decide_eq_false (by omega)
  have t2 : decide (r.hop > 9) = false := decide_eq_false (by omega)
  have HK := Lib.hid hk
  have t3 : decide ((k : Int) ≥ 0) = true := decide_eq_true (by omega)
  have t4 : decide ((k : Int) < 32) = true := decide_eq_true (by omega)
  clear hT hs hn hcode hi hk hkl hsk hsr h32 hh
  obtain ⟨ra, rb, rh⟩ := r
  simp only [key] at CK B0 t1 t2 LT HK HSR HI ⊢
  have E := eqX ra rb ra rb
  go_enter Try.func7, Try.ntmps7
  go_wp2_with fail
  refine (CK.out _).mono ?_; rintro _ w1 ⟨rfl, hg1⟩
  have hB1 : Below w.heap.size w w1 := lgr (balloc (brefl w) _) (by simp) hg1
  have BX1 := B0.below hg1.below B0.1
  have BX1h := Lib.hid BX1
  have L1 := Lib.hid (LS.out w1 (HTt.out w1 hB1) _ BX1)
  obtain ⟨_, c10, c11, c12⟩ := BX1
  simp only at c10 c11 c12
  clear hg1 B0
  go_wp2_with fail
  refine L1.out.mono ?_; rintro _ w2 ⟨z, rfl, hz, hz1, hz2, hb2⟩
  have hB2 := bcall hB1 hb2
  have BX2h := Lib.hid (BX1h.out.below hb2 BX1h.out.1)
  obtain ⟨_, c20, c21, c22⟩ := BX2h.out
  simp only at c20 c21 c22
  clear c10 c11 c12 BX1h
  rcases LT.out z hz with ⟨_, rfl, _⟩ | ⟨hno, _⟩
  · rw [HK.out]
    have hT2 := HTt.out w2 hB2
    have e0 := hT2.adr HSK.out
    have e1 := hT2.plen HSK.out
    have e2 : s.adr = ra ∧ s.len = rb := by
      have := HSR.out
      simp only [Pfx.mk.injEq] at this
      exact this
    rw [e2.1] at e0
    rw [e2.2] at e1
    obtain ⟨rest, hr1, hR2⟩ := hT2.raw
    rw [← HNL.out] at hR2
    have HR2 := Lib.hid hR2
    have HB2 := Lib.hid hB2
    clear hz hb2 L1 hT2 hr1 hR2 hB2 hB1 hz1 hz2 e2
    go_wp2_with fail
    go_quiet (fail)
    go_wp2_with fail
    have hR3 : RawT (w2.drewN nq) g (l ++ rest) n := HR2.out
    have HG3 := Lib.hid (grown_trans (grown_below (row := some g) HB2.out (Nat.le_refl _)) (grown_drewN w2 (some g) nq))
    have c30 : (w2.drewN nq).cell? ⟨w.heap.size, 0, none⟩ = some (.int .i64 ra) := c20
    have c31 : (w2.drewN nq).cell? ⟨w.heap.size, 1, none⟩ = some (.int .i64 rb) := c21
    have c32 : (w2.drewN nq).cell? ⟨w.heap.size, 2, none⟩ = some (.int .i64 rh) := c22
    generalize w2.drewN nq = w4 at hR3 HG3 c30 c31 c32 ⊢
    clear e0 e1 c20 c21 c22 BX2h HR2 HB2
    obtain ⟨x, _, x0, x1, x2⟩ := hR3.cells k k32
    have f0 := hR3.frozen (k * 3)
    have f1 := hR3.frozen (k * 3 + 1)
    have f2 := hR3.frozen (k * 3 + 2)
    have HR5 := Lib.hid (show RawT (((w4.setCell ⟨g, k * 3, none⟩ (.int .i64 ra)).setCell ⟨g, k * 3 + 1, none⟩ (.int .i64 rb)).setCell ⟨g, k * 3 + 2, none⟩ (.int .i64 rh)).drew g _ _ from hR3.store k k32 ra rb rh)
    have HG5 := Lib.hid (grown_trans HG3.out (grown_store w4 g k (.int .i64 ra) (.int .i64 rb) (.int .i64 rh)))
    have HC := Lib.hid (fun (j : Nat) (v : Value) (h : w4.cell? ⟨w.heap.size, j, none⟩ = some v) => show (((w4.setCell ⟨g, k * 3, none⟩ (.int .i64 ra)).setCell ⟨g, k * 3 + 1, none⟩ (.int .i64 rb)).setCell ⟨g, k * 3 + 2, none⟩ (.int .i64 rh)).drew.cell? ⟨w.heap.size, j, none⟩ = some v from
      (World.cell?_of_block (a := ⟨w.heap.size, j, none⟩) ((grown_store w4 g k (.int .i64 ra) (.int .i64 rb) (.int .i64 rh)).block w.heap.size (cell_in h) (fun e => absurd (Option.some.inj e) (by omega)))).trans h)
    have q0 : (0 : Int) ≤ (k : Int) := by omega
    have q1 : (k : Int) < 32 := by omega
    have q2 : (k : Int) ≤ 31 := by omega
    clear hR3
    go_region_held3 (fun W' => W'.cell? ⟨w.heap.size, 0, none⟩ = some (.int .i64 ra) ∧ W'.cell? ⟨w.heap.size, 1, none⟩ = some (.int .i64 rb) ∧ W'.cell? ⟨w.heap.size, 2, none⟩ = some (.int .i64 rh))
      (first
        | exact ⟨c30, c31, c32⟩
        | exact ⟨HC.out 0 _ c30, HC.out 1 _ c31, HC.out 2 _ c32⟩
        | go_keep)
      (first
        | fail)
    go_wp2_with fail
    go_ret
    refine ⟨rfl, ?_, HG5.out⟩
    have h5 := HR5.out
    rw [HST.out] at h5
    exact h5.tab HLN.out
  · exact absurd HI.out hno
end Go.Proofs.Ytlojehakifagbaa.Lpm
