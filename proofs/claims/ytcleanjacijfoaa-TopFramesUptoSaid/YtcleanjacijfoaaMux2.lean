/- Package mux: Put. No statement is proved here. -/
import Derived.Test.YtcleanjacijfoaaMux1
namespace Go.Proofs.Ytcleanjacijfoaa.Mux
open Go.ChangeShapes Go.WideShapes Go.ChangeAt Go.RowKit Go.Proofs.Ytcleanjacijfoaa.Kit Go.Proofs.Ytcleanjacijfoaa.App Go.Proofs.Ytcleanjacijfoaa.Cells Go.Proofs.Ytcleanjacijfoaa.Err
set_option linter.unusedVariables false
set_option maxRecDepth 20000
set_option maxHeartbeats 1000000

theorem gbel {a b : World} {g : Option Nat} (h : Below a.heap.size a b) : a.grownBy b g := ⟨h.os, h.tape, h.output, h.size, fun k hk _ => h.block k hk⟩
theorem gtrans {a b c : World} {g : Option Nat} (h : a.grownBy b g) (h2 : b.grownBy c g) : a.grownBy c g :=
  ⟨h2.os.trans h.os, h2.tape.trans h.tape, h2.output.trans h.output, Nat.le_trans h.size h2.size, fun k hk hne => (h2.block k (Nat.lt_of_lt_of_le hk h.size) hne).trans (h.block k hk hne)⟩
theorem put_nostream (g : Nat) (st pos : Int) (s : ByteArray) (w : World) (h : ¬ isS st) : Calls Try.prog 10 #[.pointer (some ⟨g, 0, none⟩), .agg #[.int .i64 st, .int .i64 pos, .string s]] w fun e w' => e = .returned (er 1) ∧ Below w.heap.size w w' := by
  have F := Lib.hid (fun W => stream_any st W false (decide_eq_false h).symm)
  clear h
  go_enter Try.func10, Try.ntmps10
  go_wp2_with fail
  refine (F.out _).mono ?_; rintro e w1 ⟨rfl, hw1⟩
  have HB := Lib.hid (show Below w.heap.size w w1 by rw [hw1]; exact balloc (brefl w) _)
  clear hw1
  go_wp2_with fail
  go_ret
  exact ⟨rfl, HB.out⟩
theorem put_low (g : Nat) (st pos : Int) (s : ByteArray) (w : World) (h : isS st) (hp : pos < 0) : Calls Try.prog 10 #[.pointer (some ⟨g, 0, none⟩), .agg #[.int .i64 st, .int .i64 pos, .string s]] w fun e w' => e = .returned (er 1) ∧ Below w.heap.size w w' := by
  have F := Lib.hid (fun W => stream_any st W true (decide_eq_true h).symm)
  have t1 : decide (pos < 0) = true := decide_eq_true hp
  clear h
  go_enter Try.func10, Try.ntmps10
  go_wp2_with fail
  refine (F.out _).mono ?_; rintro e w1 ⟨rfl, hw1⟩
  have HB := Lib.hid (show Below w.heap.size w w1 by rw [hw1]; exact balloc (brefl w) _)
  have bx := Box.new w ⟨st, pos, s⟩ 31
  have c1 : w1.cell? ⟨w.heap.size, 1, none⟩ = some (.int .i64 pos) := by rw [hw1]; exact bx.2.2.1
  clear hw1 bx
  go_wp2_with fail
  go_ret
  exact ⟨rfl, HB.out⟩
theorem put_high (g : Nat) (st pos : Int) (s : ByteArray) (w : World) (h : isS st) (hp : 200 < pos) : Calls Try.prog 10 #[.pointer (some ⟨g, 0, none⟩), .agg #[.int .i64 st, .int .i64 pos, .string s]] w fun e w' => e = .returned (er 1) ∧ Below w.heap.size w w' := by
  have F := Lib.hid (fun W => stream_any st W true (decide_eq_true h).symm)
  have t1 : decide (pos < 0) = false := decide_eq_false (by omega)
  have t2 : decide (200 < pos) = true := decide_eq_true hp
  clear h
  go_enter Try.func10, Try.ntmps10
  go_wp2_with fail
  refine (F.out _).mono ?_; rintro e w1 ⟨rfl, hw1⟩
  have HB := Lib.hid (show Below w.heap.size w w1 by rw [hw1]; exact balloc (brefl w) _)
  have bx := Box.new w ⟨st, pos, s⟩ 31
  have c1 : w1.cell? ⟨w.heap.size, 1, none⟩ = some (.int .i64 pos) := by rw [hw1]; exact bx.2.2.1
  clear hw1 bx
  go_wp2_with fail
  go_ret
  exact ⟨rfl, HB.out⟩
theorem put_full (g : Nat) (st pos : Int) (s : ByteArray) (w : World) (h : isS st) (hp : isAt pos) (hs : 200 - pos < (s.size : Int)) : Calls Try.prog 10 #[.pointer (some ⟨g, 0, none⟩), .agg #[.int .i64 st, .int .i64 pos, .string s]] w fun e w' => e = .returned (er 4) ∧ Below w.heap.size w w' := by
  have F := Lib.hid (fun W => stream_any st W true (decide_eq_true h).symm)
  obtain ⟨p1, p2⟩ := hp
  have t1 : decide (pos < 0) = false := decide_eq_false (by omega)
  have t2 : decide (200 < pos) = false := decide_eq_false (by omega)
  have t3 : decide (200 - pos < (s.size : Int)) = true := decide_eq_true hs
  clear h
  go_enter Try.func10, Try.ntmps10
  go_wp2_with fail
  refine (F.out _).mono ?_; rintro e w1 ⟨rfl, hw1⟩
  have HB := Lib.hid (show Below w.heap.size w w1 by rw [hw1]; exact balloc (brefl w) _)
  have bx := Box.new w ⟨st, pos, s⟩ 31
  have c1 : w1.cell? ⟨w.heap.size, 1, none⟩ = some (.int .i64 pos) := by rw [hw1]; exact bx.2.2.1
  have c2 : w1.cell? ⟨w.heap.size, 2, none⟩ = some (.string s) := by rw [hw1]; exact bx.2.2.2
  clear hw1 bx
  go_wp2_with fail
  go_ret
  exact ⟨rfl, HB.out⟩
theorem put_in_ (g : Nat) (d r : Nat → Nat) (n an : Nat) (s : ByteArray) (w : World) (H : Ends w g d r) (hn : n < 4) (hs : an + s.size ≤ 200) (R : Bool) (hR : R = true ↔ ¬ clash d (200 * n + an) (bl s)) :
    Calls Try.prog 10 #[.pointer (some ⟨g, 0, none⟩), .agg #[.int .i64 (n : Int), .int .i64 (an : Int), .string s]] w fun e w' => (R = true → e = .returned (er 0) ∧ Ends w' g (put d (200 * n + an) (bl s)) r) ∧ (R = false → e = .returned (er 6) ∧ Ends w' g d r) ∧ w.grownBy w' (some g) := by
  have F := Lib.hid (fun W => stream_any (n : Int) W true (decide_eq_true (by unfold isS; omega)).symm)
  have t1 : decide ((an : Int) < 0) = false := decide_eq_false (by omega)
  have t2 : decide (200 < (an : Int)) = false := decide_eq_false (by omega)
  obtain ⟨m, hm⟩ : ∃ m, s.size = m := ⟨_, rfl⟩
  have t3 : decide (200 - (an : Int) < (m : Int)) = false := decide_eq_false (by omega)
  have hg := H.lt
  have HE := Lib.hid H
  have hn4 : (n : Int) < 4 := by omega
  rw [hm] at hs
  obtain ⟨p, c, hsl, hp⟩ := slice_lh g (n * 401) an m hs
  have HM := Lib.hid hm
  have hsz : (s.size : Int) = (m : Int) := by rw [hm]
  have HP := Lib.hid hp
  have AG := Lib.hid (fun W (hb : Ends W g d r) => agree_any g (n * 401 + an * 2) m c p (fun j => d (200 * n + an + j)) s W hm.symm hp hb.lt (fun j hj => by
    have q1 := hb.known (n := n) (j := an + j) hn (by omega)
    have q2 := hb.value (n := n) (j := an + j) hn (by omega)
    rw [show n * 401 + (an + j) * 2 = n * 401 + an * 2 + j * 2 by omega] at q1 q2
    rw [← Nat.add_assoc] at q1 q2
    exact ⟨q1, q2⟩) (by omega) R (by
      rw [hR]
      unfold clash
      constructor
      · intro hh j hj
        by_cases h0 : d (200 * n + an + j) = 0
        · exact .inl h0
        · by_cases h1 : d (200 * n + an + j) = (bl s)[j]?.getD 0 + 1
          · exact .inr h1
          · exact absurd ⟨j, by rw [bl_len, hm]; exact hj, h0, h1⟩ hh
      · rintro hh ⟨j, hj, h0, h1⟩
        rw [bl_len, hm] at hj
        exact (hh j hj).elim h0 h1))
  clear H hR hp hm
  go_enter Try.func10, Try.ntmps10
  go_wp2_with fail
  refine (F.out _).mono ?_; rintro e w1 ⟨rfl, hw1⟩
  have HB := Lib.hid (show Below w.heap.size w w1 by rw [hw1]; exact balloc (brefl w) _)
  have bx := Box.new w ⟨(n : Int), (an : Int), s⟩ 31
  rw [← hw1] at bx
  obtain ⟨b0, c0, c1, c2⟩ := bx
  simp only at c0 c1 c2
  have BX := Lib.hid b0
  have HE1 := Lib.hid (HE.out.below HB.out)
  clear hw1 b0
  go_wp2_with fail
  go_quiet (fail)
  go_wp2_with fail
  refine (AG.out _ (HE1.out.drewN nq)).mono ?_; rintro e w2 ⟨rfl, hw2⟩
  have HB2 := Lib.hid (bcall HB.out ((bdrewN (brefl w1) nq).trans hw2))
  have HE2 := Lib.hid ((HE1.out.drewN nq).below hw2)
  have c3 : w2.cell? ⟨w.heap.size, 2, none⟩ = some (.string s) := (hw2.cell (p := ⟨w.heap.size, 2, none⟩) BX.out).trans c2
  have BX2 := Lib.hid (Nat.lt_of_lt_of_le BX.out hw2.size)
  clear hw2 c0 c1 c2 hsl AG HE1 HB
  cases R with
  | false =>
    go_wp2_with fail
    go_ret
    exact ⟨⟨rfl, HE2.out⟩, gbel HB2.out⟩
  | true =>
    go_wp2_with fail
    go_loopw [6, 54] (fun _ iv wr => ∃ k : Nat, k ≤ m ∧ iv = .int .i64 (k : Int) ∧ Hid (Ends wr g (put d (200 * n + an) ((bl s).take k)) r) ∧ Hid (wr.cell? ⟨w.heap.size, 2, none⟩ = some (.string s)) ∧ Hid (w.heap.size < wr.heap.size) ∧ Hid (w.grownBy wr (some g))) (fun _ i _ => m - (intOf i).toNat)
    case atStart => exact ⟨0, Nat.zero_le _, rfl, by rw [List.take_zero, put_nil]; exact HE2, Lib.hid c3, BX2, Lib.hid (gbel HB2.out)⟩
    case round =>
      obtain ⟨k, hk, rfl, HK, HC, HX, HW⟩ := hrel
      clear c3 BX2 HE2 HB2
      by_cases hlt : k < m
      · have u1 : decide ((k : Int) < (m : Int)) = true := decide_eq_true (by omega)
        obtain rfl := HP.out (by omega)
        have hM := HM.out
        have hks : k < s.size := by rw [hM]; exact hlt
        obtain ⟨y, hy, hy2⟩ : ∃ y, (s[k]'hks).toNat = y ∧ y < 256 := ⟨_, rfl, (s[k]'hks).toNat_lt⟩
        have hby : (bl s)[k]?.getD 0 = y := by rw [bl_at s hks]; exact hy
        have HN := Lib.hid (put_next d (200 * n + an) (bl s) (i := k) (by rw [bl_len]; exact hks))
        rw [hby] at HN
        have q1 := HK.out.known (n := n) (j := an + k) hn (by omega)
        have q2 := HK.out.value (n := n) (j := an + k) hn (by omega)
        have q3 := HK.out.put (n := n) (j := an + k) hn (by omega) y
        have q4 := HK.out.fz (n * 401 + an * 2 + k * 2)
        have q5 := HK.out.fz (n * 401 + an * 2 + k * 2 + 1)
        rw [show n * 401 + (an + k) * 2 = n * 401 + an * 2 + k * 2 by omega] at q1 q2 q3
        rw [← Nat.add_assoc (200 * n) an k] at q3
        rw [← HN.out] at q3
        have HQ := Lib.hid q3
        have c2 := HC.out
        have hwg : w.heap.size ≠ g := by omega
        have HG := Lib.hid (grown_set (set_grown wr g (n * 401 + an * 2 + k * 2) (.bool true)) (n * 401 + an * 2 + k * 2 + 1) (.int .u8 (y : Int)))
        have HC2 : Hid (((wr.setCell ⟨g, n * 401 + an * 2 + k * 2, none⟩ (.bool true)).setCell ⟨g, n * 401 + an * 2 + k * 2 + 1, none⟩ (.int .u8 (y : Int))).cell? ⟨w.heap.size, 2, none⟩ = some (.string s)) := Lib.hid ((World.cell?_of_block (w := wr) (a := ⟨w.heap.size, 2, none⟩) (HG.out.block w.heap.size HX.out (by simp; omega))).trans HC.out)
        generalize hb1 : Value.bool (decide (put d (200 * n + an) ((bl s).take k) (200 * n + (an + k)) ≠ 0)) = V1 at q1
        generalize hb2 : Value.int .u8 ((put d (200 * n + an) ((bl s).take k) (200 * n + (an + k)) - 1 : Nat) : Int) = V2 at q2
        clear q3 hM hby hb1 hb2 HN
        go_wp2_with fail
        go_roundw
        case rel => exact ⟨k + 1, by omega, by first | rfl | go_num, HQ, HC2, Lib.hid (by have := HX.out; simp [World.setCell]; omega), Lib.hid (gtrans HW.out HG.out)⟩
        case measure => simp [intOf]; omega
      · obtain rfl : k = m := by omega
        have u1 : decide ((k : Int) < (k : Int)) = false := decide_eq_false (by omega)
        have HF : Hid (Ends wr g (put d (200 * n + an) (bl s)) r) := Lib.hid (by have := HK.out; rw [List.take_of_length_le (by rw [bl_len, HM.out]; exact Nat.le_refl _)] at this; exact this)
        go_wp2_with fail
        go_ret
        exact ⟨⟨rfl, HF.out⟩, HW.out⟩
/-- Put, whatever comes. -/
theorem put_any (g : Nat) (d r : Nat → Nat) (f : Frm) (w : World) (H : Ends w g d r) (c : Int) (hc : codeM d f = c) (D : Nat → Nat) (hD : putM d f = D) :
    Calls Try.prog 10 #[.pointer (some ⟨g, 0, none⟩), val f] w fun e w' => e = .returned (er c) ∧ Ends w' g D r ∧ w.grownBy w' (some g) := by
  subst hc hD
  obtain ⟨st, pos, s⟩ := f
  show Calls Try.prog 10 #[.pointer (some ⟨g, 0, none⟩), .agg #[.int .i64 st, .int .i64 pos, .string s]] w _
  have hbad : ∀ c : Int, codeM d ⟨st, pos, s⟩ = c → c ≠ 0 → Calls Try.prog 10 #[.pointer (some ⟨g, 0, none⟩), .agg #[.int .i64 st, .int .i64 pos, .string s]] w (fun e w' => e = .returned (er c) ∧ Below w.heap.size w w') → Calls Try.prog 10 #[.pointer (some ⟨g, 0, none⟩), .agg #[.int .i64 st, .int .i64 pos, .string s]] w fun e w' => e = .returned (er (codeM d ⟨st, pos, s⟩)) ∧ Ends w' g (putM d ⟨st, pos, s⟩) r ∧ w.grownBy w' (some g) := fun c hc h0 hh => by
    refine hh.mono ?_
    rintro e w' ⟨rfl, hb⟩
    have e2 : putM d ⟨st, pos, s⟩ = d := by unfold putM; rw [if_neg (by rw [hc]; exact h0)]
    rw [hc, e2]
    exact ⟨rfl, H.below hb, gbel hb⟩
  by_cases h1 : isS st
  · by_cases h2 : isAt pos
    · by_cases h3 : 200 - pos < (s.size : Int)
      · exact hbad 4 (by unfold codeM; rw [if_pos ⟨h1, h2⟩, if_pos h3]) (by decide) (put_full g st pos s w h1 h2 h3)
      · obtain ⟨n, rfl⟩ : ∃ n : Nat, st = (n : Int) := ⟨st.toNat, by have := h1.1; omega⟩
        obtain ⟨an, rfl⟩ : ∃ an : Nat, pos = (an : Int) := ⟨pos.toNat, by have := h2.1; omega⟩
        have hb : beg ⟨(n : Int), (an : Int), s⟩ = 200 * n + an := by unfold beg; show 200 * (n : Int).toNat + (an : Int).toNat = _; rw [Int.toNat_natCast, Int.toNat_natCast]
        have hk : codeM d ⟨(n : Int), (an : Int), s⟩ = if clash d (200 * n + an) (bl s) then 6 else 0 := by
          unfold codeM
          rw [if_pos ⟨h1, h2⟩, if_neg h3, hb]
        refine (put_in_ g d r n an s w H (by have := h1.2; omega) (by omega) (!decide (clash d (200 * n + an) (bl s))) (by simp)).mono ?_
        rintro e w' ⟨p1, p2, p3⟩
        by_cases h4 : clash d (200 * n + an) (bl s)
        · rw [if_pos h4] at hk
          obtain ⟨rfl, p4⟩ := p2 (by simp [h4])
          have e2 : putM d ⟨(n : Int), (an : Int), s⟩ = d := by unfold putM; rw [if_neg (by rw [hk]; decide)]
          rw [hk, e2]
          exact ⟨rfl, p4, p3⟩
        · rw [if_neg h4] at hk
          obtain ⟨rfl, p4⟩ := p1 (by simp [h4])
          have e2 : putM d ⟨(n : Int), (an : Int), s⟩ = put d (200 * n + an) (bl s) := by unfold putM; rw [if_pos hk, hb]
          rw [hk, e2]
          exact ⟨rfl, p4, p3⟩
    · have hc : codeM d ⟨st, pos, s⟩ = 1 := by unfold codeM; rw [if_neg (fun h => h2 h.2)]
      by_cases h3 : pos < 0
      · exact hbad 1 hc (by decide) (put_low g st pos s w h1 h3)
      · exact hbad 1 hc (by decide) (put_high g st pos s w h1 (by unfold isAt at h2; omega))
  · exact hbad 1 (by unfold codeM; rw [if_neg (fun h => h1 h.1)]) (by decide) (put_nostream g st pos s w h1)
end Go.Proofs.Ytcleanjacijfoaa.Mux
