/- The document's estimate: contracts. No statement is proved here. -/
import Derived.Test.YtkkcfogfbabkfaaDoorBlk
import Derived.Test.YtkkcfogfbabkfaaDoorRttMath
import Derived.Test.YtkkcfogfbabkfaaDoorOnce
import Derived.Deep.RegionHeld3
namespace Go.Proofs.YtkkcfogfbabkfaaDoor.Rtt
open Go.ChangeShapes Go.WideShapes Go.ChangeAt Go.RowKit Go.Proofs.YtkkcfogfbabkfaaDoor.Kit Go.Proofs.YtkkcfogfbabkfaaDoor.App Go.Proofs.YtkkcfogfbabkfaaDoor.RttMath
set_option linter.unusedVariables false
set_option maxRecDepth 20000
set_option maxHeartbeats 1000000

theorem rleast_any (a b : Int) (w : World) (R : Int) (hR : (if b ≤ a then b else a) = R) : Calls Tryd.prog 13 #[.int .i64 a, .int .i64 b] w fun e w' => e = .returned (.int .i64 R) ∧ w' = w := by
  subst hR
  by_cases h : a < b
  · have t1 : decide (a < b) = true := decide_eq_true h
    rw [if_neg (by omega)]
    go_enter Tryd.func13, Tryd.ntmps13
    go_wp2_with fail
    go_ret
    exact ⟨rfl, rfl⟩
  · have t1 : decide (a < b) = false := decide_eq_false h
    rw [if_pos (by omega)]
    go_enter Tryd.func13, Tryd.ntmps13
    go_wp2_with fail
    go_ret
    exact ⟨rfl, rfl⟩
theorem rmost_any (a b : Int) (w : World) (R : Int) (hR : (if a ≤ b then b else a) = R) : Calls Tryd.prog 14 #[.int .i64 a, .int .i64 b] w fun e w' => e = .returned (.int .i64 R) ∧ w' = w := by
  subst hR
  by_cases h : b < a
  · have t1 : decide (b < a) = true := decide_eq_true h
    rw [if_neg (by omega)]
    go_enter Tryd.func14, Tryd.ntmps14
    go_wp2_with fail
    go_ret
    exact ⟨rfl, rfl⟩
  · have t1 : decide (b < a) = false := decide_eq_false h
    rw [if_pos (by omega)]
    go_enter Tryd.func14, Tryd.ntmps14
    go_wp2_with fail
    go_ret
    exact ⟨rfl, rfl⟩
/-- A struct of three cells as the one result: it lies in a cell. -/
theorem results_cell3 {fn : Func} {p : Tmp} {t : TypeId} (h : fn.results = #[.cell p t]) (ha : ∀ w, (isAgg t).run Tryd.prog w = .ok true w) (hs : ∀ w, (Go.sizeOf t).run Tryd.prog w = .ok 3 w) (tmps : Array Value) (w : World) (a : Addr)
    (hp : tmps.getD p undef = .pointer (some a)) (h0 : a.spot = none) (ho : a.off = 0) (u v z : Value) (c0 : w.cell? ⟨a.block, 0, none⟩ = some u) (c1 : w.cell? ⟨a.block, 1, none⟩ = some v) (c2 : w.cell? ⟨a.block, 2, none⟩ = some z) :
    (results fn tmps).run Tryd.prog w = .ok (.agg #[u, v, z]) w := by
  obtain ⟨bl, off, sp⟩ := a
  subst h0 ho
  have e1 : (loadVar t ⟨bl, 0, none⟩).run Tryd.prog w = .ok (.agg #[u, v, z]) w := by
    unfold loadVar
    rw [Sem.run_bind, ha w]
    simp only [Result.andThen_ok, if_true]
    rw [Sem.run_bind, hs w]
    simp only [Result.andThen_ok]
    have e2 : (loadCells ⟨bl, 0, none⟩ 3).run Tryd.prog w = .ok #[u, v, z] w := by
      go_simp
      try simp [c0, c1, c2]
    rw [Sem.run_bind, e2]
    rfl
  have hp' : tmps[p]?.getD undef = .pointer (some ⟨bl, 0, none⟩) := by simpa using hp
  simp [results, h, hp', asAddr, e1]
set_option maxHeartbeats 8000000 in
theorem rtake_any (s p W k s' p' W' : Int) (w : World) (hO : Ok s p W) (h1 : 0 ≤ k) (h2 : k ≤ 100000) (hs : smooth s k = s') (hp : spread s p k = p') (hW : RttMath.wait s' p' = W') :
    Calls Tryd.prog 8 #[.agg #[.int .i64 s, .int .i64 p, .int .i64 W], .int .i64 k] w fun e w' => e = .returned (.agg #[.int .i64 s', .int .i64 p', .int .i64 W']) ∧ Below w.heap.size w w' := by
  have hO1 := ok_take hO h1 h2
  rw [hs, hp, hW] at hO1
  have hs0 : s' ≠ -1 := by rw [← hs]; exact taken hO h1
  obtain ⟨b1, b2, b3, b4⟩ := known hO1 hs0
  obtain ⟨m, hm⟩ : ∃ m, more p' = m := ⟨_, rfl⟩
  have hmb : 0 ≤ m ∧ m ≤ 400000 := by rw [← hm]; unfold more; split <;> omega
  have MO := Lib.hid (fun w x (hx : x = 4 * p') => rmost_any x 1 w m (by rw [hx, ← hm]; rfl))
  have hle : (if 100000 ≤ s' + m then 100000 else s' + m) = W' := by
    rw [← hW, ← hm]
    unfold RttMath.wait cap
    repeat' split
    all_goals omega
  have LE := Lib.hid (fun w x (hx : x = s' + m) => rleast_any x 100000 w W' (by rw [hx]; exact hle))
  obtain ⟨b, hb⟩ : ∃ b, w.heap.size = b := ⟨_, rfl⟩
  by_cases hs1 : s = -1
  · obtain rfl : s' = k := by rw [← hs]; unfold smooth; rw [if_pos hs1]
    have t3 : decide (s < 0) = true := decide_eq_true (by omega)
    have hq : s'.tdiv 2 = p' := by rw [← hp]; unfold spread; rw [if_pos hs1, Int.tdiv_eq_ediv_of_nonneg h1]
    clear hs hp hW hs1 hs0 hm hO1 hO hle
    go_enter Tryd.func8, Tryd.ntmps8
    go_wp2_with fail
    have HA := Lib.hid ((Blk.new w 31 [.int .i64 s', .int .i64 p', .int .i64 W]).alloc (.cells #[.int .i64 0, .int .i64 0, .int .i64 0] 31))
    have HZ := Lib.hid (Blk.new (w.alloc (.cells #[.int .i64 s', .int .i64 p', .int .i64 W] 31)) 31 [.int .i64 0, .int .i64 0, .int .i64 0])
    have hB : Below w.heap.size w ((w.alloc (.cells #[.int .i64 s', .int .i64 p', .int .i64 W] 31)).alloc (.cells #[.int .i64 0, .int .i64 0, .int .i64 0] 31)) := balloc (balloc (brefl w) _) _
    rw [World.size_alloc] at HZ
    rw [hb] at HA HZ
    generalize (w.alloc (.cells #[.int .i64 s', .int .i64 p', .int .i64 W] 31)).alloc (.cells #[.int .i64 0, .int .i64 0, .int .i64 0] 31) = w2 at HA HZ hB ⊢
    have c0 := HA.out.cell 0 _ rfl
    have c1 := HA.out.cell 1 _ rfl
    have c2 := HA.out.cell 2 _ rfl
    have f0 := HA.out.fz 0
    have f1 := HA.out.fz 1
    have f2 := HA.out.fz 2
    have HS := Lib.hid (HA.out.set 2 (.int .i64 W')).drew
    go_region_held3 (fun W' => W'.cell? ⟨b, 0, none⟩ = some (.int .i64 s') ∧ W'.cell? ⟨b, 1, none⟩ = some (.int .i64 p'))
      (first
        | exact ⟨c0, c1⟩
        | exact ⟨HS.out.cell 0 _ rfl, HS.out.cell 1 _ rfl⟩
        | go_keep)
      (first
        | (go_at_call 14; refine (MO.out _ _ (by first | rfl | (rw [IntKind.wrap_i64]; omega))).mono ?_; rintro e w8 ⟨rfl, rfl⟩)
        | (go_at_call 13; refine (LE.out _ _ (by first | rfl | (rw [IntKind.wrap_i64]; omega))).mono ?_; rintro e w8 ⟨rfl, rfl⟩))
    have hB3 : Below w.heap.size w (w2.setCell ⟨b, 2, none⟩ (.int .i64 W')).drew := (below_set hB b 2 _ (Nat.le_of_eq hb)).drew
    have HZ3 := Lib.hid ((HZ.out.other b 2 (.int .i64 W') (by omega)).drew)
    clear c0 c1 c2 f0 f1 f2 hB HZ HA MO LE
    generalize (w2.setCell ⟨b, 2, none⟩ (.int .i64 W')).drew = w3 at HS HZ3 hB3 ⊢
    have HS : Hid (Blk 31 w3 b [.int .i64 s', .int .i64 p', .int .i64 W']) := HS
    have c0 := HS.out.cell 0 _ rfl
    have c1 := HS.out.cell 1 _ rfl
    have c2 := HS.out.cell 2 _ rfl
    have z0 := HZ3.out.cell 0 _ rfl
    have z1 := HZ3.out.cell 1 _ rfl
    have z2 := HZ3.out.cell 2 _ rfl
    have f0 := HZ3.out.fz 0
    have f1 := HZ3.out.fz 1
    have f2 := HZ3.out.fz 2
    go_wp2_with fail
    have HR := Lib.hid (((HZ3.out.set 0 (.int .i64 s')).set 1 (.int .i64 p')).set 2 (.int .i64 W'))
    have hB4 := below_set (below_set (below_set hB3 (b + 1) 0 (.int .i64 s') (by omega)) (b + 1) 1 (.int .i64 p') (by omega)) (b + 1) 2 (.int .i64 W') (by omega)
    exact bodyPost_ret (results_cell3 rfl Tryd.isAgg31 Tryd.sizeOf31 _ _ _ rfl rfl rfl _ _ _ (HR.out.cell 0 _ rfl) (HR.out.cell 1 _ rfl) (HR.out.cell 2 _ rfl)) rfl ⟨rfl, hB4⟩
  · obtain ⟨b5, b6, b7, b8⟩ := known hO hs1
    have t3 : decide (s < 0) = false := decide_eq_false (by omega)
    obtain ⟨D, hD⟩ : ∃ D, dist k s = D := ⟨_, rfl⟩
    obtain ⟨c, hc⟩ : ∃ c, 3 * p + D = c := ⟨_, rfl⟩
    obtain ⟨e, he⟩ : ∃ e, 7 * s + k = e := ⟨_, rfl⟩
    have hDb : 0 ≤ D ∧ D ≤ 100000 := by rw [← hD]; unfold dist; split <;> omega
    have hq : c.tdiv 4 = p' := by rw [← hp]; unfold spread; rw [if_neg hs1, hD, hc, Int.tdiv_eq_ediv_of_nonneg (by omega)]
    have hr : e.tdiv 8 = s' := by rw [← hs]; unfold smooth; rw [if_neg hs1, he, Int.tdiv_eq_ediv_of_nonneg (by omega)]
    clear hs hp hW hs1 hs0 hm hO1 hO hle
    by_cases hks : k < s
    · have t4 : decide (k - s < 0) = true := decide_eq_true (by omega)
      have hd : -(k - s) = D := by rw [← hD]; unfold dist; rw [if_pos hks]; omega
      clear hD
      go_enter Tryd.func8, Tryd.ntmps8
      go_wp2_with fail
      have HA := Lib.hid ((Blk.new w 31 [.int .i64 s', .int .i64 p', .int .i64 W]).alloc (.cells #[.int .i64 0, .int .i64 0, .int .i64 0] 31))
      have HZ := Lib.hid (Blk.new (w.alloc (.cells #[.int .i64 s', .int .i64 p', .int .i64 W] 31)) 31 [.int .i64 0, .int .i64 0, .int .i64 0])
      have hB : Below w.heap.size w ((w.alloc (.cells #[.int .i64 s', .int .i64 p', .int .i64 W] 31)).alloc (.cells #[.int .i64 0, .int .i64 0, .int .i64 0] 31)) := balloc (balloc (brefl w) _) _
      rw [World.size_alloc] at HZ
      rw [hb] at HA HZ
      generalize (w.alloc (.cells #[.int .i64 s', .int .i64 p', .int .i64 W] 31)).alloc (.cells #[.int .i64 0, .int .i64 0, .int .i64 0] 31) = w2 at HA HZ hB ⊢
      have c0 := HA.out.cell 0 _ rfl
      have c1 := HA.out.cell 1 _ rfl
      have c2 := HA.out.cell 2 _ rfl
      have f0 := HA.out.fz 0
      have f1 := HA.out.fz 1
      have f2 := HA.out.fz 2
      have HS := Lib.hid (HA.out.set 2 (.int .i64 W')).drew
      go_region_held3 (fun W' => W'.cell? ⟨b, 0, none⟩ = some (.int .i64 s') ∧ W'.cell? ⟨b, 1, none⟩ = some (.int .i64 p'))
        (first
          | exact ⟨c0, c1⟩
          | exact ⟨HS.out.cell 0 _ rfl, HS.out.cell 1 _ rfl⟩
          | go_keep)
        (first
          | (go_at_call 14; refine (MO.out _ _ (by first | rfl | (rw [IntKind.wrap_i64]; omega))).mono ?_; rintro e w8 ⟨rfl, rfl⟩)
          | (go_at_call 13; refine (LE.out _ _ (by first | rfl | (rw [IntKind.wrap_i64]; omega))).mono ?_; rintro e w8 ⟨rfl, rfl⟩))
      have hB3 : Below w.heap.size w (w2.setCell ⟨b, 2, none⟩ (.int .i64 W')).drew := (below_set hB b 2 _ (Nat.le_of_eq hb)).drew
      have HZ3 := Lib.hid ((HZ.out.other b 2 (.int .i64 W') (by omega)).drew)
      clear c0 c1 c2 f0 f1 f2 hB HZ HA MO LE
      generalize (w2.setCell ⟨b, 2, none⟩ (.int .i64 W')).drew = w3 at HS HZ3 hB3 ⊢
      have HS : Hid (Blk 31 w3 b [.int .i64 s', .int .i64 p', .int .i64 W']) := HS
      have c0 := HS.out.cell 0 _ rfl
      have c1 := HS.out.cell 1 _ rfl
      have c2 := HS.out.cell 2 _ rfl
      have z0 := HZ3.out.cell 0 _ rfl
      have z1 := HZ3.out.cell 1 _ rfl
      have z2 := HZ3.out.cell 2 _ rfl
      have f0 := HZ3.out.fz 0
      have f1 := HZ3.out.fz 1
      have f2 := HZ3.out.fz 2
      go_wp2_with fail
      have HR := Lib.hid (((HZ3.out.set 0 (.int .i64 s')).set 1 (.int .i64 p')).set 2 (.int .i64 W'))
      have hB4 := below_set (below_set (below_set hB3 (b + 1) 0 (.int .i64 s') (by omega)) (b + 1) 1 (.int .i64 p') (by omega)) (b + 1) 2 (.int .i64 W') (by omega)
      exact bodyPost_ret (results_cell3 rfl Tryd.isAgg31 Tryd.sizeOf31 _ _ _ rfl rfl rfl _ _ _ (HR.out.cell 0 _ rfl) (HR.out.cell 1 _ rfl) (HR.out.cell 2 _ rfl)) rfl ⟨rfl, hB4⟩
    · have t4 : decide (k - s < 0) = false := decide_eq_false (by omega)
      have hd : k - s = D := by rw [← hD]; unfold dist; rw [if_neg hks]
      clear hD
      go_enter Tryd.func8, Tryd.ntmps8
      go_wp2_with fail
      have HA := Lib.hid ((Blk.new w 31 [.int .i64 s', .int .i64 p', .int .i64 W]).alloc (.cells #[.int .i64 0, .int .i64 0, .int .i64 0] 31))
      have HZ := Lib.hid (Blk.new (w.alloc (.cells #[.int .i64 s', .int .i64 p', .int .i64 W] 31)) 31 [.int .i64 0, .int .i64 0, .int .i64 0])
      have hB : Below w.heap.size w ((w.alloc (.cells #[.int .i64 s', .int .i64 p', .int .i64 W] 31)).alloc (.cells #[.int .i64 0, .int .i64 0, .int .i64 0] 31)) := balloc (balloc (brefl w) _) _
      rw [World.size_alloc] at HZ
      rw [hb] at HA HZ
      generalize (w.alloc (.cells #[.int .i64 s', .int .i64 p', .int .i64 W] 31)).alloc (.cells #[.int .i64 0, .int .i64 0, .int .i64 0] 31) = w2 at HA HZ hB ⊢
      have c0 := HA.out.cell 0 _ rfl
      have c1 := HA.out.cell 1 _ rfl
      have c2 := HA.out.cell 2 _ rfl
      have f0 := HA.out.fz 0
      have f1 := HA.out.fz 1
      have f2 := HA.out.fz 2
      have HS := Lib.hid (HA.out.set 2 (.int .i64 W')).drew
      go_region_held3 (fun W' => W'.cell? ⟨b, 0, none⟩ = some (.int .i64 s') ∧ W'.cell? ⟨b, 1, none⟩ = some (.int .i64 p'))
        (first
          | exact ⟨c0, c1⟩
          | exact ⟨HS.out.cell 0 _ rfl, HS.out.cell 1 _ rfl⟩
          | go_keep)
        (first
          | (go_at_call 14; refine (MO.out _ _ (by first | rfl | (rw [IntKind.wrap_i64]; omega))).mono ?_; rintro e w8 ⟨rfl, rfl⟩)
          | (go_at_call 13; refine (LE.out _ _ (by first | rfl | (rw [IntKind.wrap_i64]; omega))).mono ?_; rintro e w8 ⟨rfl, rfl⟩))
      have hB3 : Below w.heap.size w (w2.setCell ⟨b, 2, none⟩ (.int .i64 W')).drew := (below_set hB b 2 _ (Nat.le_of_eq hb)).drew
      have HZ3 := Lib.hid ((HZ.out.other b 2 (.int .i64 W') (by omega)).drew)
      clear c0 c1 c2 f0 f1 f2 hB HZ HA MO LE
      generalize (w2.setCell ⟨b, 2, none⟩ (.int .i64 W')).drew = w3 at HS HZ3 hB3 ⊢
      have HS : Hid (Blk 31 w3 b [.int .i64 s', .int .i64 p', .int .i64 W']) := HS
      have c0 := HS.out.cell 0 _ rfl
      have c1 := HS.out.cell 1 _ rfl
      have c2 := HS.out.cell 2 _ rfl
      have z0 := HZ3.out.cell 0 _ rfl
      have z1 := HZ3.out.cell 1 _ rfl
      have z2 := HZ3.out.cell 2 _ rfl
      have f0 := HZ3.out.fz 0
      have f1 := HZ3.out.fz 1
      have f2 := HZ3.out.fz 2
      go_wp2_with fail
      have HR := Lib.hid (((HZ3.out.set 0 (.int .i64 s')).set 1 (.int .i64 p')).set 2 (.int .i64 W'))
      have hB4 := below_set (below_set (below_set hB3 (b + 1) 0 (.int .i64 s') (by omega)) (b + 1) 1 (.int .i64 p') (by omega)) (b + 1) 2 (.int .i64 W') (by omega)
      exact bodyPost_ret (results_cell3 rfl Tryd.isAgg31 Tryd.sizeOf31 _ _ _ rfl rfl rfl _ _ _ (HR.out.cell 0 _ rfl) (HR.out.cell 1 _ rfl) (HR.out.cell 2 _ rfl)) rfl ⟨rfl, hB4⟩
end Go.Proofs.YtkkcfogfbabkfaaDoor.Rtt
