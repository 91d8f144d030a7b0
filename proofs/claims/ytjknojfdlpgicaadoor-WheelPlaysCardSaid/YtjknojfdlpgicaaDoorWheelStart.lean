/- Package wheel: Start. No statement is proved here. -/
import Derived.Test.YtjknojfdlpgicaaDoorWheel1
import Derived.Deep.AppendLies
namespace Go.Proofs.YtjknojfdlpgicaaDoor.Wheel
open Go.ChangeShapes Go.WideShapes Go.ChangeAt Go.RowKit Go.Proofs.YtjknojfdlpgicaaDoor.Kit Go.Proofs.YtjknojfdlpgicaaDoor.App Go.Proofs.YtjknojfdlpgicaaDoor.Queue Go.Proofs.YtjknojfdlpgicaaDoor.MapZ Go.Proofs.YtjknojfdlpgicaaDoor.WheelMath
set_option linter.unusedVariables false
set_option maxRecDepth 20000
set_option maxHeartbeats 1000000

theorem step_appQ {w : World} {ops : Array Oper} {o : Oper} {a : Act} {K : Act → World → Prop} {Q : Exit → Act → World → Prop} {E : Prop} (hgd : o.guard = none) (s x : Operand)
    (ho : o.op = .call { callee := .builtin .append, args := #[s, x], argTypes := #[29, 29] })
    (base : Nat) (v : Value) (xs : List Int) (p : Option Addr) (cap n : Nat) (l : List Int) (hs : a.eval s = v) (hown : OwnQ w base v xs) (hx : a.eval x = .slice p n cap) (hn : n = l.length) (hl : Ints w p cap l)
    (hlen : xs.length + l.length ≤ 1000000) (hbase : base ≤ w.heap.size)
    (h : ∀ v' w', OwnQ w' base v' (xs ++ l) → w.grownBy w' v.ownBlock → (v'.ownBlock = v.ownBlock ∨ v'.ownBlock = some w.heap.size) → K (a.put o.dst v') w') :
    if Region.wanted o (yielded ops a.tmps) = true then Oper.wp Tryd.prog o a w K Q else E := by
  have hw : Region.wanted o (yielded ops a.tmps) = true := by simp [Region.wanted, hgd]
  rw [if_pos hw]
  obtain ⟨v', w', hrun, h2, h3, h4⟩ := run_appQ w o.type base v xs p cap l hown hl hlen hbase
  unfold Oper.wp execOp
  rw [hn] at hx
  simp only [ho, resolve, invoke, builtin, Sem.run_bind, Sem.run_pure, Result.andThen_ok, List.map_toArray, List.map_cons, List.map_nil, hs, hx, hrun]
  exact h v' w' h2 h3 h4

/-- The error that Start gives. -/
def er (e : Int) : Value := if e = 0 then .nilIface else .iface 42 (.int .i64 e)
theorem er_0 : er 0 = .nilIface := rfl
theorem er_1 : er 1 = .iface 42 (.int .i64 1) := rfl
theorem er_6 : er 6 = .iface 42 (.int .i64 6) := rfl

theorem grown_from {w w' : World} {r : Option Nat} (h : w.drew.grownBy w' r) : w.grownBy w' r := ⟨h.os, h.tape, h.output, h.size, h.block⟩
theorem start_bad (b : Nat) (i a : Int) (w : World) (h : ¬ (0 ≤ i ∧ i < 20 ∧ 1 ≤ a ∧ a ≤ 400)) : Calls Tryd.prog 7 #[.pointer (some ⟨b, 0, none⟩), .int .i64 i, .int .i64 a] w fun e w' => e = .returned (er 1) ∧ w' = w := by
  rw [er_1]
  by_cases h1 : i < 0
  · have t1 : decide (i < 0) = true := decide_eq_true h1
    go_enter Tryd.func7, Tryd.ntmps7
    go_wp2_with fail
    go_ret
    exact ⟨rfl, rfl⟩
  · have t1 : decide (i < 0) = false := decide_eq_false h1
    by_cases h2 : i < 20
    · have t2 : decide (20 ≤ i) = false := decide_eq_false (by omega)
      by_cases h3 : a < 1
      · have t3 : decide (a < 1) = true := decide_eq_true h3
        go_enter Tryd.func7, Tryd.ntmps7
        go_wp2_with fail
        go_ret
        exact ⟨rfl, rfl⟩
      · have t3 : decide (a < 1) = false := decide_eq_false h3
        have t4 : decide (400 < a) = true := decide_eq_true (by omega)
        go_enter Tryd.func7, Tryd.ntmps7
        go_wp2_with fail
        go_ret
        exact ⟨rfl, rfl⟩
    · have t2 : decide (20 ≤ i) = true := decide_eq_true (by omega)
      go_enter Tryd.func7, Tryd.ntmps7
      go_wp2_with fail
      go_ret
      exact ⟨rfl, rfl⟩
theorem wf_id {i : Int} (h : 0 ≤ i ∧ i < 20) : (Lit.int .i64 i).wf = true := wf_of (by omega)
theorem start_clash (X : Nat → Prop) (b n : Nat) (left : Int → Nat) (i : Int) (a : Nat) (w : World) (H : Wh X w b n left) (h0 : 0 ≤ i ∧ i < 20) (ha : 1 ≤ a) (ha2 : a ≤ 400) (hl : left i ≠ 0) :
    Calls Tryd.prog 7 #[.pointer (some ⟨b, 0, none⟩), .int .i64 i, .int .i64 (a : Int)] w fun e w' => e = .returned (er 6) ∧ w' = w := by
  rw [er_6]
  have t1 : decide (i < 0) = false := decide_eq_false (by omega)
  have t2 : decide (20 ≤ i) = false := decide_eq_false (by omega)
  have t3 : decide ((a : Int) < 1) = false := decide_eq_false (by omega)
  have t4 : decide (400 < (a : Int)) = false := decide_eq_false (by omega)
  obtain ⟨m, now, sv, q, h, hS, hI⟩ := H
  have c1 := hS.blk.cell 401 _ (cells_map m now sv)
  have hlk := hS.map.look_ok (wf_id h0)
  rcases left_key hI i with ⟨h1, h2⟩ | ⟨h1, h2, h3, s, h4, h5, h6, h7⟩
  · exact absurd h1 hl
  · rw [h6] at hlk
    have hlk : (Instr.lookup 38 (.map (some m)) (.int .i64 i) true).run Tryd.prog w = .ok (.tuple #[.int .i64 (s : Int), .bool true]) w := hlk
    clear hS hI h1 h2 h5 h6 h7
    go_enter Tryd.func7, Tryd.ntmps7
    go_wp2_with fail
    go_ret
    exact ⟨rfl, rfl⟩
theorem start_good (X : Nat → Prop) (b n : Nat) (left : Int → Nat) (i : Int) (a : Nat) (w : World) (H : Wh X w b n left) (hn : n ≤ 1000000) (h0 : 0 ≤ i ∧ i < 20) (ha : 1 ≤ a) (ha2 : a ≤ 400) (hl : left i = 0) :
    Calls Tryd.prog 7 #[.pointer (some ⟨b, 0, none⟩), .int .i64 i, .int .i64 (a : Int)] w fun e w' => e = .returned .nilIface ∧ Wh X w' b (n + 1) (updZ left i a) ∧ Keep X w w' := by
  have t1 : decide (i < 0) = false := decide_eq_false (by omega)
  have t2 : decide (20 ≤ i) = false := decide_eq_false (by omega)
  have t3 : decide ((a : Int) < 1) = false := decide_eq_false (by omega)
  have t4 : decide (400 < (a : Int)) = false := decide_eq_false (by omega)
  obtain ⟨m, now, sv, q, h, hS, hI⟩ := H
  have hnow := hI.lt
  obtain ⟨s, hs⟩ : ∃ s : Nat, (now + a) % 400 = s := ⟨_, rfl⟩
  have hs4 : s < 400 := by omega
  have c0 := hS.blk.cell 400 _ (cells_now m now sv)
  have c1 := hS.blk.cell 401 _ (cells_map m now sv)
  have c2 := hS.blk.cell s _ (cells_slot m now sv hs4)
  have f2 := hS.blk.fz s
  have hlk := hS.map.look_ok (wf_id h0)
  have hq := len_slot hI hs4
  have hI' := Lib.hid (inv_start hI h0.1 h0.2 hl ha ha2 hs)
  rcases left_key hI i with ⟨h1, h2⟩ | ⟨h1, _⟩
  · rw [h2] at hlk
    have hlk : (Instr.lookup 38 (.map (some m)) (.int .i64 i) true).run Tryd.prog w = .ok (.tuple #[.int .i64 0, .bool false]) w := hlk
    have hs1 : ((now : Int) + (a : Int)) % 400 = (s : Int) := by omega
    have HS := Lib.hid hS
    clear hS hI h1 h2 hl
    go_enter Tryd.func7, Tryd.ntmps7
    go_wp2_with fail
    rw [hs1]
    have hs5 : (s : Int) < 400 := by omega
    have HO := Lib.hid ((HS.out.own s hs4).drew.alloc (.cells #[.int .i64 i] 3))
    have HI := Lib.hid (Ints.one w.drew i (wf_id h0))
    have HB := Lib.hid (HS.out.blk.drew.alloc (.cells #[.int .i64 i] 3))
    have HNE := Lib.hid (fun e : some b = (sv s).ownBlock => (HS.out.bs s hs4 b e.symm).1 rfl)
    have HG0 := Lib.hid (grown_from (World.grownBy_alloc w.drew (.cells #[.int .i64 i] 3) (sv s).ownBlock))
    have c3 : (w.alloc (.cells #[.int .i64 i] 3)).cell? ⟨b, s, none⟩ = some (sv s) := HB.out.cell s _ (cells_slot m now sv hs4)
    go_region_law (refine step_appQ rfl (.tmp 50) (.tmp 52) rfl 0 (sv s) (q s) (some ⟨w.drew.heap.size, 0, none⟩) 1 1 [i] rfl HO.out rfl rfl HI.out (by simp; omega) (Nat.zero_le _) ?_
                   intro v1 w1 hown1 hg1 hat1
                   have hb1 := HB.out.more hg1 HNE.out
                   have hc1 := hb1.cell s _ (cells_slot m now sv hs4)
                   have hf1 := hb1.fz s
                   obtain ⟨p1, cap1, e1, hI1⟩ := hown1.form
                   generalize (q s ++ [i]).length = L1 at e1
                   subst e1
                   have HOW := Lib.hid hown1
                   have HG1 := Lib.hid hg1
                   have HAT := Lib.hid hat1
                   clear hown1 hg1 hat1 hb1)
    all_goals
      have HGW := Lib.hid (gtrans HG0.out HG1.out)
      have HS2 := Lib.hid (HS.out.turn hs4 HGW.out (N := w.heap.size + 1) (by omega) (by have h := HAT.out; simpa using h) HOW.out)
      have HK2 := Lib.hid ((HS.out.keep_s (Keep.refl X w) hs4 HGW.out).grown (set_grown w1 b s (.slice p1 L1 cap1)) (fun j hj e => HS.out.xb (by injection e with e; exact e ▸ hj)) (fun j hj => Nat.lt_of_lt_of_le (HS.out.xl j hj) HGW.out.size))
      generalize w1.setCell ⟨b, s, none⟩ (.slice p1 L1 cap1) = w2 at HS2 HK2 ⊢
      have c4 := HS2.out.blk.cell 401 _ (cells_map m now _)
      clear c0 c1 c2 c3 f2 hc1 hf1 HO HI HB HNE HG0 HG1 HAT HOW HGW
      go_wp2_with (at_mapUpdate
                   refine wp_put rfl (.tmp 60) (.tmp 61) (.tmp 62) rfl HS2.out.map hn i (s : Int) (wf_id h0) (wf_of (by omega)) rfl rfl rfl ?_
                   intro w3 hm3 hg3)
      go_ret
      exact ⟨rfl, ⟨m, now, _, _, _, HS2.out.put hm3 hg3, hI'.out⟩, HS2.out.keep_m HK2.out hg3⟩
  · exact absurd hl h1
end Go.Proofs.YtjknojfdlpgicaaDoor.Wheel
