/- The contract of what frag.gather returns first: one fragment more. No statement is proved here. -/
import Derived.Test.YtcleanjacijfoaaFJoin3
namespace Go.Proofs.Ytcleanjacijfoaa.Part
open Go.ChangeShapes Go.WideShapes Go.ChangeAt Go.RowKit Go.Proofs.Ytcleanjacijfoaa.Kit Go.Proofs.Ytcleanjacijfoaa.App Go.Proofs.Ytcleanjacijfoaa.Cells
set_option linter.unusedVariables false
set_option maxRecDepth 20000

theorem arr200 : Try.prog.underlying 80 = some (.array (Try.prog.arrayLen 80) (Try.prog.elem 80)) := by kernel_rfl
theorem len200 : Try.prog.arrayLen 80 = 200 := by kernel_rfl
theorem size2 (W : World) : (sizeOf (Try.prog.elem 80)).run Try.prog W = .ok 2 W := by
  have h : (Try.prog.info? (Try.prog.elem 80)).map (fun i => i.size) = some 2 := by kernel_rfl
  obtain ⟨i, hi, hz⟩ := Option.map_eq_some_iff.1 h
  simp only [sizeOf, typeInfo, Sem.run_bind, run_program, Result.andThen_ok, hi, hz, Sem.run_pure]
theorem slice_lh (g an m : Nat) (h : an + m ≤ 200) : ∃ p c, (∀ W, (Instr.sliceAt 80 (.pointer (some ⟨g, 0, none⟩)) (some (.int .i64 (an : Int))) (some (.int .i64 ((an : Int) + (m : Int)))) none).run Try.prog W = .ok (.slice p m c) W) ∧ (0 < m → p = some ⟨g, an * 2, none⟩) := by
  refine ⟨some (if 200 = an then ⟨g, 0, none⟩ else ⟨g, an * 2, none⟩), 200 - an, fun W => ?_, fun hm => by rw [if_neg (by omega)]⟩
  rw [run_sliceAt_array_lh W _ _ arr200 .i64 .i64 (an : Int) ((an : Int) + (m : Int)) (by omega) (by omega) (by rw [len200]; omega), size2]
  simp only [Result.andThen_ok, slicedAt, len200, Int.toNat_natCast]
  rw [show ((an : Int) + (m : Int)).toNat = an + m by omega, show an + m - an = m by omega]
  congr 4
  simp [Addr.add]
  omega
theorem slice_h (g n : Nat) (h : n ≤ 200) : ∃ p c, (∀ W, (Instr.sliceAt 80 (.pointer (some ⟨g, 0, none⟩)) none (some (.int .i64 (n : Int))) none).run Try.prog W = .ok (.slice p n c) W) ∧ (0 < n → p = some ⟨g, 0, none⟩) := by
  refine ⟨some ⟨g, 0, none⟩, 200, fun W => ?_, fun _ => rfl⟩
  rw [run_sliceAt_array_h W _ _ arr200 .i64 (n : Int) (by omega) (by rw [len200]; omega), size2]
  simp only [Result.andThen_ok, slicedAt, len200, Int.toNat_natCast]
  simp [Addr.add]
theorem slice_l (g n : Nat) (h : n ≤ 200) : ∃ p c, (∀ W, (Instr.sliceAt 80 (.pointer (some ⟨g, 0, none⟩)) (some (.int .i64 (n : Int))) none none).run Try.prog W = .ok (.slice p (200 - n) c) W) ∧ (0 < 200 - n → p = some ⟨g, n * 2, none⟩) := by
  refine ⟨some (if 200 = n then ⟨g, 0, none⟩ else ⟨g, n * 2, none⟩), 200 - n, fun W => ?_, fun hm => by rw [if_neg (by omega)]⟩
  rw [run_sliceAt_array_l W _ _ arr200 .i64 (n : Int) (by omega) (by rw [len200]; omega), size2]
  simp only [Result.andThen_ok, slicedAt, len200, Int.toNat_natCast]
  congr 4
  simp [Addr.add]
  omega

theorem keep2 {w1 w2 : World} {g b : Nat} {u v : Value} (hg : w1.drew.grownBy w2 (some g)) (hb : b < w1.heap.size) (hne : b ≠ g) (h0 : w1.cell? ⟨b, 0, none⟩ = some u) (h2 : w1.cell? ⟨b, 2, none⟩ = some v) : w2.cell? ⟨b, 0, none⟩ = some u ∧ w2.cell? ⟨b, 2, none⟩ = some v := by
  have k := hg.block b hb (by simpa using hne)
  exact ⟨(World.cell?_of_block (w := w1.drew) (a := ⟨b, 0, none⟩) k).trans h0, (World.cell?_of_block (w := w1.drew) (a := ⟨b, 2, none⟩) k).trans h2⟩
theorem below_put {w w1 w2 : World} {base g : Nat} (h : Below base w w1) (hb : base ≤ w1.heap.size) (hg : w1.drew.grownBy w2 (some g)) (hgb : base ≤ g) : Below base w w2 :=
  h.drew.grown hg hb (fun k e => by injection e with e; omega)
theorem Box.more2 {w w' : World} {g b : Nat} {x : Prt} (h : Box w g x) (hg : w.grownBy w' (some b)) (hne : g ≠ b) : Box w' g x := h.more hg hne
theorem add_bad (x : Prt) (w : World) (hF : Fits x) (hr : right x = false) (a1 a2 a3 : Value) :
    Calls Try.prog 28 #[val x, a1, a2, a3] w fun e w' => e = .returned (.iface 63 (.int .i64 1)) ∧ Below w.heap.size w w' := by
  have FI := Lib.hid (fun W => fits_any x W hF false hr.symm)
  obtain ⟨a, b, s⟩ := x
  unfold val at FI ⊢
  simp only at FI ⊢
  go_enter Try.func28, Try.ntmps28
  go_wp2_with fail
  refine (FI.out _).mono ?_; rintro e w1 ⟨rfl, hw1⟩
  have hB1 : Below w.heap.size w w1 := by rw [hw1]; exact balloc (balloc (brefl w) _) _
  clear hw1
  go_wp2_with fail
  go_ret
  exact ⟨rfl, hB1⟩

set_option maxHeartbeats 1000000 in
theorem add_more (s : ByteArray) (an : Nat) (w : World) (base eb db g : Nat) (fin : Int) (h : Nat → Nat) (S : St w base eb db g fin h) (hF : Fits ⟨(an : Int), true, s⟩) (ha : an + s.size ≤ 200) (R : Bool) (hR : R = true ↔ Still h ⟨(an : Int), true, s⟩ s.size) :
    Calls Try.prog 28 #[val ⟨(an : Int), true, s⟩, .pointer (some ⟨eb, 0, none⟩), .pointer (some ⟨db, 0, none⟩), .pointer (some ⟨g, 0, none⟩)] w fun e w' => e = .returned (if R = true then .nilIface else .iface 63 (.int .i64 6)) ∧ Below base w w' ∧ (R = true → St w' base eb db g fin (put h ⟨(an : Int), true, s⟩)) := by
  have FI := Lib.hid (fun W => fits_any ⟨(an : Int), true, s⟩ W hF true ((right_iff _).2 ⟨by show (0 : Int) ≤ (an : Int); omega, by show (an : Int) ≤ 200; omega, by show (s.size : Int) ≤ 200 - an; omega⟩).symm)
  have PUT := Lib.hid (fun m c p W (H : CH W base g h) hm hp => put_any g an m c base p true s W h H hm (by omega) hp R hR)
  unfold val at FI ⊢
  simp only at FI ⊢
  have S0 := Lib.hid S
  have hgs := S.H.ge
  clear S hR
  go_enter Try.func28, Try.ntmps28
  go_wp2_with fail
  refine (FI.out _).mono ?_; rintro e w1 ⟨rfl, hw1⟩
  have hB1 : Below w.heap.size w w1 := by rw [hw1]; exact balloc (balloc (brefl w) _) _
  have bx1 : Box w1 w.heap.size ⟨(an : Int), true, s⟩ := by rw [hw1]; exact (Box.new w ⟨(an : Int), true, s⟩ 51).below (balloc (brefl _) _) (by simp)
  have S1 := Lib.hid (S0.out.below hB1)
  have hB0 : Below base w w1 := hB1.mono (by omega)
  clear hw1
  have BX := Lib.hid bx1
  obtain ⟨hbx, c0, c1, c2⟩ := bx1
  simp only at c0 c1 c2
  obtain ⟨p, c, hsl, hp⟩ := slice_lh g an s.size ha
  have P2 := Lib.hid (fun W H => PUT.out s.size c p W H rfl hp)
  clear PUT hp
  go_wp2_with fail
  go_region_held3 (fun W' => W'.cell? ⟨w.heap.size, 0, none⟩ = some (.int .i64 (an : Int)) ∧ W'.cell? ⟨w.heap.size, 2, none⟩ = some (.string s))
    (first
      | exact ⟨c0, c2⟩
      | exact hkeep
      | go_keep)
    ((go_at_call 30; refine (P2.out _ S1.out.H.drew).mono ?_; rintro e w2 ⟨rfl, hg2, hH2⟩; have hkeep : w2.cell? ⟨w.heap.size, 0, none⟩ = some (.int .i64 (an : Int)) ∧ w2.cell? ⟨w.heap.size, 2, none⟩ = some (.string s) := keep2 hg2 hbx (by omega) c0 c2))
  have hBf : Below base w w2 := below_put hB0 (by omega) hg2 hgs.1
  cases R with
  | true =>
    have HS := Lib.hid (S1.out.drew.put hg2 (hH2 rfl))
    clear hkeep hH2 hg2 c0 c1 c2 hsl
    go_wp2_with fail
    go_ret
    exact ⟨rfl, hBf, HS.out⟩
  | false =>
    clear hkeep hH2 hg2 c0 c1 c2 hsl
    go_wp2_with fail
    go_ret
    first | exact ⟨rfl, hBf⟩ | exact ⟨rfl, hBf, fun e => by cases e⟩
set_option maxHeartbeats 1000000 in
theorem add_same (s : ByteArray) (an : Nat) (w : World) (base eb db g : Nat) (fin : Int) (h : Nat → Nat) (S : St w base eb db g fin h) (hF : Fits ⟨(an : Int), false, s⟩) (ha : an + s.size ≤ 200) (h0 : 0 ≤ fin) (h1 : fin = (an : Int) + (s.size : Int)) (R : Bool) (hR : R = true ↔ Still h ⟨(an : Int), false, s⟩ s.size) :
    Calls Try.prog 28 #[val ⟨(an : Int), false, s⟩, .pointer (some ⟨eb, 0, none⟩), .pointer (some ⟨db, 0, none⟩), .pointer (some ⟨g, 0, none⟩)] w fun e w' => e = .returned (if R = true then .nilIface else .iface 63 (.int .i64 6)) ∧ Below base w w' ∧ (R = true → St w' base eb db g ((an : Int) + (s.size : Int)) (put h ⟨(an : Int), false, s⟩)) := by
  have FI := Lib.hid (fun W => fits_any ⟨(an : Int), false, s⟩ W hF true ((right_iff _).2 ⟨by show (0 : Int) ≤ (an : Int); omega, by show (an : Int) ≤ 200; omega, by show (s.size : Int) ≤ 200 - an; omega⟩).symm)
  have PUT := Lib.hid (fun m c p W (H : CH W base g h) hm hp => put_any g an m c base p false s W h H hm (by omega) hp R hR)
  unfold val at FI ⊢
  simp only at FI ⊢
  have S0 := Lib.hid S
  have hgs := S.H.ge
  clear S hR
  go_enter Try.func28, Try.ntmps28
  go_wp2_with fail
  refine (FI.out _).mono ?_; rintro e w1 ⟨rfl, hw1⟩
  have hB1 : Below w.heap.size w w1 := by rw [hw1]; exact balloc (balloc (brefl w) _) _
  have bx1 : Box w1 w.heap.size ⟨(an : Int), false, s⟩ := by rw [hw1]; exact (Box.new w ⟨(an : Int), false, s⟩ 51).below (balloc (brefl _) _) (by simp)
  have S1 := Lib.hid (S0.out.below hB1)
  have hB0 : Below base w w1 := hB1.mono (by omega)
  clear hw1
  have BX := Lib.hid bx1
  obtain ⟨hbx, c0, c1, c2⟩ := bx1
  simp only at c0 c1 c2
  obtain ⟨p, c, hsl, hp⟩ := slice_lh g an s.size ha
  have P2 := Lib.hid (fun W H => PUT.out s.size c p W H rfl hp)
  clear PUT hp
  have e0 := S1.out.e
  have f0 := S1.out.ef
  have f1 := S1.out.df
  obtain ⟨z, d0, hz⟩ := S1.out.d
  have n3 : ¬ eb = db := S1.out.n3
  have n3' : ¬ db = eb := fun e => n3 e.symm
  rw [decide_eq_true h0] at e0
  have hz' := hz h0
  subst hz'
  clear hz
  have u1 : (z != (an : Int) + (s.size : Int)) = false := by rw [h1]; simp
  go_wp2_with fail
  have S2 := S1.out.ends ((an : Int) + (s.size : Int)) (by omega)
  have g1 := gb_set w1 db (.int .i64 ((an : Int) + (s.size : Int)))
  have g2 := gb_set (w1.setCell ⟨db, 0, none⟩ (.int .i64 ((an : Int) + (s.size : Int)))) eb (.bool true)
  have hb1 := S0.out.b1
  have hb2 := S0.out.b2
  have bx2 := (BX.out.more g1 (by omega)).more g2 (by omega)
  have hB2 : Below base w ((w1.setCell ⟨db, 0, none⟩ (.int .i64 ((an : Int) + (s.size : Int)))).setCell ⟨eb, 0, none⟩ (.bool true)) := Below.setCell (p := ⟨eb, 0, none⟩) (Below.setCell (p := ⟨db, 0, none⟩) hB0 hb2.1 _) hb1.1 _
  generalize (w1.setCell ⟨db, 0, none⟩ (.int .i64 ((an : Int) + (s.size : Int)))).setCell ⟨eb, 0, none⟩ (.bool true) = w1' at S2 bx2 hB2 ⊢
  clear g1 g2 S1 BX hbx c0 c1 c2 hB0 e0 d0 f0 f1
  have S1 := Lib.hid S2
  have hB0 := hB2
  obtain ⟨hbx, c0, c1, c2⟩ := bx2
  simp only at c0 c1 c2
  clear S2 hB2
  go_region_held3 (fun W' => W'.cell? ⟨w.heap.size, 0, none⟩ = some (.int .i64 (an : Int)) ∧ W'.cell? ⟨w.heap.size, 2, none⟩ = some (.string s))
    (first
      | exact ⟨c0, c2⟩
      | exact hkeep
      | go_keep)
    ((go_at_call 30; refine (P2.out _ S1.out.H.drew).mono ?_; rintro e w2 ⟨rfl, hg2, hH2⟩; have hkeep : w2.cell? ⟨w.heap.size, 0, none⟩ = some (.int .i64 (an : Int)) ∧ w2.cell? ⟨w.heap.size, 2, none⟩ = some (.string s) := keep2 hg2 hbx (by omega) c0 c2))
  have hBf : Below base w w2 := below_put hB0 (by omega) hg2 hgs.1
  cases R with
  | true =>
    have HS := Lib.hid (S1.out.drew.put hg2 (hH2 rfl))
    clear hkeep hH2 hg2 c0 c1 c2 hsl
    go_wp2_with fail
    go_ret
    exact ⟨rfl, hBf, HS.out⟩
  | false =>
    clear hkeep hH2 hg2 c0 c1 c2 hsl
    go_wp2_with fail
    go_ret
    first | exact ⟨rfl, hBf⟩ | exact ⟨rfl, hBf, fun e => by cases e⟩
set_option maxHeartbeats 1000000 in
theorem add_first (s : ByteArray) (an : Nat) (w : World) (base eb db g : Nat) (fin : Int) (h : Nat → Nat) (S : St w base eb db g fin h) (hF : Fits ⟨(an : Int), false, s⟩) (ha : an + s.size ≤ 200) (h0 : ¬ 0 ≤ fin) (R : Bool) (hR : R = true ↔ Still h ⟨(an : Int), false, s⟩ s.size) :
    Calls Try.prog 28 #[val ⟨(an : Int), false, s⟩, .pointer (some ⟨eb, 0, none⟩), .pointer (some ⟨db, 0, none⟩), .pointer (some ⟨g, 0, none⟩)] w fun e w' => e = .returned (if R = true then .nilIface else .iface 63 (.int .i64 6)) ∧ Below base w w' ∧ (R = true → St w' base eb db g ((an : Int) + (s.size : Int)) (put h ⟨(an : Int), false, s⟩)) := by
  have FI := Lib.hid (fun W => fits_any ⟨(an : Int), false, s⟩ W hF true ((right_iff _).2 ⟨by show (0 : Int) ≤ (an : Int); omega, by show (an : Int) ≤ 200; omega, by show (s.size : Int) ≤ 200 - an; omega⟩).symm)
  have PUT := Lib.hid (fun m c p W (H : CH W base g h) hm hp => put_any g an m c base p false s W h H hm (by omega) hp R hR)
  unfold val at FI ⊢
  simp only at FI ⊢
  have S0 := Lib.hid S
  have hgs := S.H.ge
  clear S hR
  go_enter Try.func28, Try.ntmps28
  go_wp2_with fail
  refine (FI.out _).mono ?_; rintro e w1 ⟨rfl, hw1⟩
  have hB1 : Below w.heap.size w w1 := by rw [hw1]; exact balloc (balloc (brefl w) _) _
  have bx1 : Box w1 w.heap.size ⟨(an : Int), false, s⟩ := by rw [hw1]; exact (Box.new w ⟨(an : Int), false, s⟩ 51).below (balloc (brefl _) _) (by simp)
  have S1 := Lib.hid (S0.out.below hB1)
  have hB0 : Below base w w1 := hB1.mono (by omega)
  clear hw1
  have BX := Lib.hid bx1
  obtain ⟨hbx, c0, c1, c2⟩ := bx1
  simp only at c0 c1 c2
  obtain ⟨p, c, hsl, hp⟩ := slice_lh g an s.size ha
  have P2 := Lib.hid (fun W H => PUT.out s.size c p W H rfl hp)
  clear PUT hp
  have e0 := S1.out.e
  have f0 := S1.out.ef
  have f1 := S1.out.df
  obtain ⟨z, d0, hz⟩ := S1.out.d
  have n3 : ¬ eb = db := S1.out.n3
  have n3' : ¬ db = eb := fun e => n3 e.symm
  rw [show decide (0 ≤ fin) = false from decide_eq_false (by omega)] at e0
  clear hz
  go_wp2_with fail
  have S2 := S1.out.ends ((an : Int) + (s.size : Int)) (by omega)
  have g1 := gb_set w1 db (.int .i64 ((an : Int) + (s.size : Int)))
  have g2 := gb_set (w1.setCell ⟨db, 0, none⟩ (.int .i64 ((an : Int) + (s.size : Int)))) eb (.bool true)
  have hb1 := S0.out.b1
  have hb2 := S0.out.b2
  have bx2 := (BX.out.more g1 (by omega)).more g2 (by omega)
  have hB2 : Below base w ((w1.setCell ⟨db, 0, none⟩ (.int .i64 ((an : Int) + (s.size : Int)))).setCell ⟨eb, 0, none⟩ (.bool true)) := Below.setCell (p := ⟨eb, 0, none⟩) (Below.setCell (p := ⟨db, 0, none⟩) hB0 hb2.1 _) hb1.1 _
  generalize (w1.setCell ⟨db, 0, none⟩ (.int .i64 ((an : Int) + (s.size : Int)))).setCell ⟨eb, 0, none⟩ (.bool true) = w1' at S2 bx2 hB2 ⊢
  clear g1 g2 S1 BX hbx c0 c1 c2 hB0 e0 d0 f0 f1
  have S1 := Lib.hid S2
  have hB0 := hB2
  obtain ⟨hbx, c0, c1, c2⟩ := bx2
  simp only at c0 c1 c2
  clear S2 hB2
  go_region_held3 (fun W' => W'.cell? ⟨w.heap.size, 0, none⟩ = some (.int .i64 (an : Int)) ∧ W'.cell? ⟨w.heap.size, 2, none⟩ = some (.string s))
    (first
      | exact ⟨c0, c2⟩
      | exact hkeep
      | go_keep)
    ((go_at_call 30; refine (P2.out _ S1.out.H.drew).mono ?_; rintro e w2 ⟨rfl, hg2, hH2⟩; have hkeep : w2.cell? ⟨w.heap.size, 0, none⟩ = some (.int .i64 (an : Int)) ∧ w2.cell? ⟨w.heap.size, 2, none⟩ = some (.string s) := keep2 hg2 hbx (by omega) c0 c2))
  have hBf : Below base w w2 := below_put hB0 (by omega) hg2 hgs.1
  cases R with
  | true =>
    have HS := Lib.hid (S1.out.drew.put hg2 (hH2 rfl))
    clear hkeep hH2 hg2 c0 c1 c2 hsl
    go_wp2_with fail
    go_ret
    exact ⟨rfl, hBf, HS.out⟩
  | false =>
    clear hkeep hH2 hg2 c0 c1 c2 hsl
    go_wp2_with fail
    go_ret
    first | exact ⟨rfl, hBf⟩ | exact ⟨rfl, hBf, fun e => by cases e⟩
set_option maxHeartbeats 1000000 in
theorem add_other (s : ByteArray) (an : Nat) (w : World) (base eb db g : Nat) (fin : Int) (h : Nat → Nat) (S : St w base eb db g fin h) (hF : Fits ⟨(an : Int), false, s⟩) (ha : an + s.size ≤ 200) (h0 : 0 ≤ fin) (h1 : fin ≠ (an : Int) + (s.size : Int)) :
    Calls Try.prog 28 #[val ⟨(an : Int), false, s⟩, .pointer (some ⟨eb, 0, none⟩), .pointer (some ⟨db, 0, none⟩), .pointer (some ⟨g, 0, none⟩)] w fun e w' => e = .returned (.iface 63 (.int .i64 6)) ∧ Below w.heap.size w w' := by
  have FI := Lib.hid (fun W => fits_any ⟨(an : Int), false, s⟩ W hF true ((right_iff _).2 ⟨by show (0 : Int) ≤ (an : Int); omega, by show (an : Int) ≤ 200; omega, by show (s.size : Int) ≤ 200 - an; omega⟩).symm)
  unfold val at FI ⊢
  simp only at FI ⊢
  have S0 := Lib.hid S
  clear S
  go_enter Try.func28, Try.ntmps28
  go_wp2_with fail
  refine (FI.out _).mono ?_; rintro e w1 ⟨rfl, hw1⟩
  have hB1 : Below w.heap.size w w1 := by rw [hw1]; exact balloc (balloc (brefl w) _) _
  have bx1 : Box w1 w.heap.size ⟨(an : Int), false, s⟩ := by rw [hw1]; exact (Box.new w ⟨(an : Int), false, s⟩ 51).below (balloc (brefl _) _) (by simp)
  have S1 := Lib.hid (S0.out.below hB1)
  clear hw1
  obtain ⟨hbx, c0, c1, c2⟩ := bx1
  simp only at c0 c1 c2
  have e0 := S1.out.e
  have f0 := S1.out.ef
  have f1 := S1.out.df
  obtain ⟨z, d0, hz⟩ := S1.out.d
  have n3 : ¬ eb = db := S1.out.n3
  have n3' : ¬ db = eb := fun e => n3 e.symm
  rw [decide_eq_true h0] at e0
  have hz' := hz h0
  clear hz
  have u1 : (z != (an : Int) + (s.size : Int)) = true := by rw [hz', bne_iff_ne]; exact h1
  clear hz'
  go_wp2_with fail
  go_ret
  exact ⟨rfl, hB1⟩
end Go.Proofs.Ytcleanjacijfoaa.Part
