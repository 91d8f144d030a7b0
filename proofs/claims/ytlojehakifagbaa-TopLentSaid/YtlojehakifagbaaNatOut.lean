/- Package nat: Out. No statement is proved here. -/
import Derived.Test.YtlojehakifagbaaNat1
import Derived.Deep.LoopGhost
namespace Go.Proofs.Ytlojehakifagbaa.Nat_
open Go.ChangeShapes Go.WideShapes Go.ChangeAt Go.RowKit Go.Proofs.Ytlojehakifagbaa.Kit Go.Proofs.Ytlojehakifagbaa.App Go.Proofs.Ytlojehakifagbaa.Cells Go.Proofs.Ytlojehakifagbaa.Err Go.Proofs.Ytlojehakifagbaa.MapG
set_option linter.unusedVariables false
set_option maxRecDepth 20000
set_option maxHeartbeats 2000000

theorem out_bad (b : Nat) (x : Plc) (w : World) (hx : ¬ good x) :
    Calls Try.prog 8 #[.pointer (some ⟨b, 0, none⟩), .agg #[.int .i64 x.adr, .int .i64 x.prt]] w fun e w' => e = .returned (.tuple #[.int .i64 0, er 1]) ∧ Below w.heap.size w w' := by
  obtain ⟨a, p⟩ := x
  rw [er_1]
  have hbox := Box.new w ⟨a, p⟩ 40
  have c4 := hbox.2.1
  have c5 := hbox.2.2
  have HB := Lib.hid (balloc (brefl w) (.cells #[.int .i64 a, .int .i64 p] 40))
  clear hbox
  by_cases ha : num a
  · have C1 := Lib.hid (isNum_any a true (num_yes ha))
    have C2 := Lib.hid (isNum_any p false (num_no (fun hp => hx ⟨ha, hp⟩)))
    clear hx ha
    go_enter Try.func8, Try.ntmps8
    go_wp2_with (first
      | (go_at_call_of 13 (Value.int .i64 a); refine (C1.out _).mono ?_; rintro e w1 ⟨rfl, rfl⟩)
      | (go_at_call 13; refine (C2.out _).mono ?_; rintro e w1 ⟨rfl, rfl⟩))
    go_ret2
    exact ⟨rfl, HB.out⟩
  · have C1 := Lib.hid (isNum_any a false (num_no ha))
    clear hx ha
    go_enter Try.func8, Try.ntmps8
    go_wp2_with (go_at_call 13; refine (C1.out _).mono ?_; rintro e w1 ⟨rfl, rfl⟩)
    go_ret2
    exact ⟨rfl, HB.out⟩
theorem out_has (X : Nat → Prop) (b bp bq n low many : Nat) (g : Plc → Option Int) (h : Int → Option Plc) (x : Plc) (q : Int) (w : World) (S : St X w b bp bq n low many g h) (hx : good x) (hq : h q = some x) :
    Calls Try.prog 8 #[.pointer (some ⟨b, 0, none⟩), .agg #[.int .i64 x.adr, .int .i64 x.prt]] w fun e w' => e = .returned (.tuple #[.int .i64 q, .nilIface]) ∧ Below w.heap.size w w' := by
  obtain ⟨a, p⟩ := x
  have hbox := Box.new w ⟨a, p⟩ 40
  have hB := balloc (brefl w) (.cells #[.int .i64 a, .int .i64 p] 40)
  have C1 := Lib.hid (isNum_any a true (num_yes hx.1))
  have C2 := Lib.hid (isNum_any p true (num_yes hx.2))
  have hfit := hx.fits
  have S1 := S.below hB
  have c2 := S1.blk.cell 2 _ rfl
  have hlk : ∀ k, (Instr.lookup 51 (.map (some bp)) (.agg #[.int .i64 a, .int .i64 p]) true).run Try.prog ((w.alloc (.cells #[.int .i64 a, .int .i64 p] 40)).drewN k) = .ok (.tuple #[.int .i64 q, .bool true]) ((w.alloc (.cells #[.int .i64 a, .int .i64 p] 40)).drewN k) := fun k => by
    have := (S1.drewN k).mp.look_ok kP_ok hfit
    rw [(S1.inv _ q).2 hq] at this
    exact this
  have c4 := hbox.2.1
  have c5 := hbox.2.2
  have HB := Lib.hid hB
  clear S1 S hB hbox hx hq
  generalize hw0 : w.alloc (.cells #[.int .i64 a, .int .i64 p] 40) = w0 at hlk c2 c4 c5 HB
  generalize hbx : w.heap.size = bx at c4 c5
  go_enter Try.func8, Try.ntmps8
  go_wp2_with (first
    | (go_at_call_of 13 (Value.int .i64 a); refine (C1.out _).mono ?_; rintro e w1 ⟨rfl, rfl⟩)
    | (go_at_call 13; refine (C2.out _).mono ?_; rintro e w1 ⟨rfl, rfl⟩))
  go_quiet (fail)
  go_wp2_with fail
  go_ret2
  exact ⟨rfl, by rw [← hbx]; exact bdrewN HB.out _⟩
def vN : Value → Nat
  | .int _ z => z.toNat
  | _ => 0
theorem keep_drewN {X : Nat → Prop} {w w' : World} (h : Keep X w w') (m : Nat) : Keep X w (w'.drewN m) := ⟨h.os, h.tape, h.output, h.size, h.block⟩
theorem out_none (X : Nat → Prop) (b bp bq n low many : Nat) (g : Plc → Option Int) (h : Int → Option Plc) (x : Plc) (w : World) (S : St X w b bp bq n low many g h) (hn : n ≤ 100000) (hx : good x) (hno : ∀ q, h q ≠ some x) :
    Calls Try.prog 8 #[.pointer (some ⟨b, 0, none⟩), .agg #[.int .i64 x.adr, .int .i64 x.prt]] w fun e w' => ∃ port c h', e = .returned (.tuple #[.int .i64 port, er c]) ∧ OutR low many h x port c h' ∧ Tab X w' b (n + 1) low many h' ∧ Keep X w w' := by
  have HNO := Lib.hid hno
  have HX := Lib.hid hx
  obtain ⟨a, p⟩ := x
  have hbox := Box.new w ⟨a, p⟩ 40
  have hB := balloc (brefl w) (.cells #[.int .i64 a, .int .i64 p] 40)
  have C1 := Lib.hid (isNum_any a true (num_yes hx.1))
  have C2 := Lib.hid (isNum_any p true (num_yes hx.2))
  have hfit := hx.fits
  have S1 := S.below hB
  have c2 := S1.blk.cell 2 _ rfl
  have hlk : ∀ k, (Instr.lookup 51 (.map (some bp)) (.agg #[.int .i64 a, .int .i64 p]) true).run Try.prog ((w.alloc (.cells #[.int .i64 a, .int .i64 p] 40)).drewN k) = .ok (.tuple #[.int .i64 0, .bool false]) ((w.alloc (.cells #[.int .i64 a, .int .i64 p] 40)).drewN k) := fun k => by
    have := (S1.drewN k).mp.look_ok kP_ok hfit
    rw [S1.inv.none hno] at this
    exact this
  have c4 := hbox.2.1
  have c5 := hbox.2.2
  obtain ⟨hi, hhi⟩ : ∃ hi : Nat, hi = low + many := ⟨_, rfl⟩
  have hlo := S.tb.lo
  have u0 : IntKind.i64.wrap ((low : Int) + (many : Int)) = (hi : Int) := by rw [wrap_in (by omega)]; omega
  have HHI := Lib.hid hhi
  have hhi6 : hi ≤ 65536 := by omega
  have hlh : low ≤ hi := by omega
  have HK1 := Lib.hid (S.keepB hB)
  have HS1 := Lib.hid S1
  have HBOX := Lib.hid hbox
  have hbxX : ¬ X w.heap.size := fun e => by have := S.xl _ e; omega
  have HXB := Lib.hid hbxX
  have HBP := Lib.hid S.mp.lt
  clear S1 S hB hbox hx hno hhi hlo hbxX
  generalize hw0 : w.alloc (.cells #[.int .i64 a, .int .i64 p] 40) = w0 at hlk c2 c4 c5 HS1 HK1 HBOX
  generalize hbx : w.heap.size = bx at c4 c5 HBOX HXB HBP
  go_enter Try.func8, Try.ntmps8
  go_wp2_with (first
    | (go_at_call_of 13 (Value.int .i64 a); refine (C1.out _).mono ?_; rintro e w1 ⟨rfl, rfl⟩)
    | (go_at_call 13; refine (C2.out _).mono ?_; rintro e w1 ⟨rfl, rfl⟩))
  go_quiet (fail)
  have c0 : (w1.drewN nq).cell? ⟨b, 0, none⟩ = some (.int .i64 (low : Int)) := HS1.out.blk.cell 0 _ rfl
  have HS2 := Lib.hid (HS1.out.drewN nq)
  have HK2 := Lib.hid (keep_drewN HK1.out nq)
  have HBOX2 := Lib.hid (HBOX.out.drewN nq)
  clear hlk c2 c4 c5 HS1 HK1 HBOX hw0
  generalize w1.drewN nq = w2 at c0 HS2 HK2 HBOX2 ⊢
  go_wp2_with fail
  clear c0
  go_loopw [8] (fun pv wr => ∃ k : Nat, low ≤ k ∧ k ≤ hi ∧ pv = .int .i64 (k : Int) ∧ Hid (Below w2.heap.size w2 wr) ∧ Hid (∀ r : Int, low ≤ r → r < k → h r ≠ none)) (fun i _ => hi - vN i)
  case atStart => exact ⟨low, Nat.le_refl _, hlh, rfl, Lib.hid (brefl w2), Lib.hid (fun r h1 h2 => by omega)⟩
  case round =>
    obtain ⟨k, hk0, hk, rfl, HW, HX2⟩ := hrel
    have HS3 := Lib.hid (HS2.out.below HW.out)
    have HK3 := Lib.hid (HK2.out.trans (HS2.out.keepB HW.out))
    have HBX3 := Lib.hid (HBOX2.out.below HW.out HBOX2.out.1)
    have c0 := HS3.out.blk.cell 0 _ rfl
    have c1 := HS3.out.blk.cell 1 _ rfl
    by_cases hlt : k < hi
    · have u1 : decide ((k : Int) < (hi : Int)) = true := decide_eq_true (by omega)
      have hkw : (Lit.int .i64 (k : Int)).wf = true := wf_in (by omega)
      go_wp2_with fail
      go_quiet (fail)
      have HS4 := Lib.hid (HS3.out.drewN nq)
      have HK4 := Lib.hid (keep_drewN HK3.out nq)
      have HBX4 := Lib.hid (HBX3.out.drewN nq)
      have HW4 := Lib.hid (bdrewN HW.out nq)
      clear c0 c1 HS3 HK3 HBX3 HW
      generalize wr.drewN nq = w3 at HS4 HK4 HBX4 HW4 ⊢
      have c3 := HS4.out.blk.cell 3 _ rfl
      have hlk0 := HS4.out.mq.look_ok kQ_ok hkw
      cases hh : h (k : Int) with
      | some y =>
        obtain ⟨y1, y2⟩ := y
        rw [hh] at hlk0
        have hlk : (Instr.lookup 52 (.map (some bq)) (.int .i64 (k : Int)) true).run Try.prog w3 = .ok (.tuple #[.agg #[.int .i64 y1, .int .i64 y2], .bool true]) w3 := hlk0
        have HH := Lib.hid hh
        clear hlk0 hh
        go_wp2_with fail
        go_roundw
        case rel => exact ⟨k + 1, by omega, by omega, by first | rfl | go_num, Lib.hid (balloc HW4.out _), Lib.hid (fun r h1 h2 => by
          by_cases e : r = k
          · rw [e, HH.out]; simp
          · exact HX2.out r h1 (by omega))⟩
        case measure => simp [vN]; omega
      | none =>
        rw [hh] at hlk0
        have hlk : (Instr.lookup 52 (.map (some bq)) (.int .i64 (k : Int)) true).run Try.prog w3 = .ok (.tuple #[.agg #[.int .i64 0, .int .i64 0], .bool false]) w3 := hlk0
        have HH := Lib.hid hh
        clear hlk0 hh
        go_wp2_with fail
        have HBX5 := Lib.hid (HBX4.out.alloc (.cells #[.int .i64 0, .int .i64 0] 40))
        have HB5 := balloc (brefl w3) (.cells #[.int .i64 0, .int .i64 0] 40)
        have HS5 := Lib.hid (HS4.out.below HB5)
        have HK5 := Lib.hid (HK4.out.trans (HS4.out.keepB HB5))
        clear c3 hlk HB5 HS4 HK4 HBX4 HW4
        generalize w3.alloc (.cells #[.int .i64 0, .int .i64 0] 40) = w5 at HBX5 HS5 HK5 ⊢
        have c2 := HS5.out.blk.cell 2 _ rfl
        have c4 := HBX5.out.2.1
        have c5 := HBX5.out.2.2
        obtain ⟨w6, hrun, hm6, hg6⟩ := (show Mg kP w5.drew bp n g from HS5.out.mp).store kP_ok (j := ⟨a, p⟩) hfit (by omega) (k : Int) hkw
        have hrun : (Instr.mapUpdate 51 (.map (some bp)) (.agg #[.int .i64 a, .int .i64 p]) (.int .i64 (k : Int))).run Try.prog w5.drew = .ok () w6 := hrun
        have HM6 := Lib.hid hm6
        have HG6 := Lib.hid (show w5.grownBy w6 (some bp) from ⟨hg6.os, hg6.tape, hg6.output, hg6.size, hg6.block⟩)
        clear hm6 hg6
        go_region_law (fail)
        all_goals
          have HBX6 := Lib.hid (HBX5.out.more HG6.out (fun e => by have := HBP.out; omega))
          have HBL6 := Lib.hid (HS5.out.blk.more HG6.out (fun e => HS5.out.np (Option.some.inj e)))
          have HMQ6 := Lib.hid (HS5.out.mq.kept HG6.out (fun e => HS5.out.pq (Option.some.inj e).symm))
          clear c2 c4 c5 hrun
          have c3 := HBL6.out.cell 3 _ rfl
          have c4 := HBX6.out.2.1
          have c5 := HBX6.out.2.2
          obtain ⟨w7, hrun, hm7, hg7⟩ := (show Mg kQ w6.drew bq n h from HMQ6.out).store kQ_ok (j := (k : Int)) hkw (by omega) ⟨a, p⟩ trivial
          have hrun : (Instr.mapUpdate 52 (.map (some bq)) (.int .i64 (k : Int)) (.agg #[.int .i64 a, .int .i64 p])).run Try.prog w6.drew = .ok () w7 := hrun
          have HM7 := Lib.hid hm7
          have HG7 := Lib.hid (show w6.grownBy w7 (some bq) from ⟨hg7.os, hg7.tape, hg7.output, hg7.size, hg7.block⟩)
          clear hm7 hg7
          go_wp2_with fail
          go_region_law (fail)
          all_goals
            go_wp2_with fail
            go_ret2
            have HSZ := Nat.le_trans HG6.out.size HG7.out.size
            refine ⟨(k : Int), 0, upd h (k : Int) (some ⟨a, p⟩), by rw [er_0]; rfl, .inr (.inr (.inl ⟨HX.out, HNO.out, ⟨by omega, by have := HHI.out; omega⟩, HH.out, HX2.out, rfl, rfl⟩)), ⟨bp, bq, upd g ⟨a, p⟩ (some (k : Int)), HBL6.out.more HG7.out (fun e => HS5.out.nq (Option.some.inj e)), HM6.out.kept HG7.out (fun e => HS5.out.pq (Option.some.inj e)), HM7.out, HS5.out.inv.put HNO.out HH.out, HS5.out.tb.put ⟨by omega, by have := HHI.out; omega⟩ HX.out HNO.out, HS5.out.np, HS5.out.nq, HS5.out.pq, HS5.out.xb, HS5.out.xp, HS5.out.xq, fun j hj => Nat.lt_of_lt_of_le (HS5.out.xl j hj) HSZ⟩, (HK5.out.trans (Keep.grown HG6.out (fun j hj e => HS5.out.xp (by rw [← Option.some.inj e]; exact hj)) HS5.out.xl)).trans (Keep.grown HG7.out (fun j hj e => HS5.out.xq (by rw [← Option.some.inj e]; exact hj)) (fun j hj => Nat.lt_of_lt_of_le (HS5.out.xl j hj) HG6.out.size))⟩
    · obtain rfl : k = hi := by omega
      have u1 : decide ((k : Int) < (k : Int)) = false := decide_eq_false (by omega)
      go_wp2_with fail
      go_quiet (fail)
      go_wp2_with fail
      go_ret2
      exact ⟨0, 4, h, by rw [er_4]; rfl, .inr (.inr (.inr ⟨HX.out, HNO.out, fun r h1 h2 => HX2.out r h1 (by rw [HHI.out]; omega), rfl, rfl, rfl⟩)), ⟨bp, bq, g, (HS3.out.drewN _).mono (Nat.le_succ _)⟩, keep_drewN HK3.out _⟩
/-- Asked for a place's port, whatever place. -/
theorem out_any (X : Nat → Prop) (b n low many : Nat) (h : Int → Option Plc) (x : Plc) (w : World) (H : Tab X w b n low many h) (hn : n ≤ 100000) :
    Calls Try.prog 8 #[.pointer (some ⟨b, 0, none⟩), .agg #[.int .i64 x.adr, .int .i64 x.prt]] w fun e w' => ∃ port c h', e = .returned (.tuple #[.int .i64 port, er c]) ∧ OutR low many h x port c h' ∧ Tab X w' b (n + 1) low many h' ∧ Keep X w w' := by
  by_cases hx : good x
  · obtain ⟨bp, bq, g, S⟩ := H
    by_cases hq : ∃ q, h q = some x
    · obtain ⟨q, hq⟩ := hq
      refine (out_has X b bp bq n low many g h x q w S hx hq).mono ?_
      rintro e w' ⟨rfl, hB⟩
      exact ⟨q, 0, h, by rw [er_0], .inr (.inl ⟨hx, hq, rfl, rfl⟩), ⟨bp, bq, g, (S.below hB).mono (Nat.le_succ _)⟩, S.keepB hB⟩
    · exact out_none X b bp bq n low many g h x w S hn hx (fun q e => hq ⟨q, e⟩)
  · refine (out_bad b x w hx).mono ?_
    rintro e w' ⟨rfl, hB⟩
    exact ⟨0, 1, h, rfl, .inl ⟨hx, rfl, rfl, rfl⟩, (H.below hB).mono (Nat.le_succ _), Keep.of_below hB H.xl⟩
end Go.Proofs.Ytlojehakifagbaa.Nat_
