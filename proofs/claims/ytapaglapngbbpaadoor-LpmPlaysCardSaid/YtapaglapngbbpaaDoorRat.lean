/- The contract of the document's place of a prefix in a table. No statement is proved here. -/
import Derived.Test.YtapaglapngbbpaaDoorRouteSame
import Derived.Test.YtapaglapngbbpaaDoorCidr1
namespace Go.Proofs.YtapaglapngbbpaaDoor.Route
open Go.ChangeShapes Go.WideShapes Go.ChangeAt Go.RowKit Go.Sort Go.Proofs.YtapaglapngbbpaaDoor.Kit Go.Proofs.YtapaglapngbbpaaDoor.App Go.Proofs.YtapaglapngbbpaaDoor.Cells Go.Proofs.YtapaglapngbbpaaDoor.Cidr Go.Proofs.YtapaglapngbbpaaDoor.CidrMath Go.Proofs.YtapaglapngbbpaaDoor.RouteMath
set_option linter.unusedVariables false
set_option maxRecDepth 20000

/-- A slice in a block of its own: what a table's value holds. -/
theorem new_slice (w : World) (p : Option Addr) (n cap : Nat) (t : TypeId) : (w.alloc (.cells #[.slice p n cap] t)).cell? ⟨w.heap.size, 0, none⟩ = some (.slice p n cap) := by
  have h : (w.alloc (.cells #[.slice p n cap] t)).heap[w.heap.size]? = some (.cells #[.slice p n cap] t) := alloc_new w _
  unfold World.cell?; rw [h]; rfl
theorem pos_step (l : List Rt) (p : Pfx) (k : Nat) (r : Rt) (hr : l[k]? = some r) (h : Lt (key r) p) (hk : k ≤ pos l p) : k + 1 ≤ pos l p := by
  rcases Nat.lt_or_ge k (pos l p) with h1 | h1
  · exact h1
  · have e : k = pos l p := by omega
    rw [e] at hr
    exact absurd h (at_pos hr)
theorem pos_stop (l : List Rt) (p : Pfx) (k : Nat) (h : ∀ r, l[k]? = some r → ¬ Lt (key r) p) (hk : k ≤ pos l p) : k = pos l p := by
  rcases Nat.lt_or_ge k (pos l p) with h1 | h1
  · have hl : k < l.length := Nat.lt_of_lt_of_le h1 (pos_le l p)
    have hm : l[k] ∈ l.take (pos l p) := List.mem_take_iff_getElem.2 ⟨k, by omega, rfl⟩
    exact absurd (before_pos hm) (h _ (List.getElem?_eq_getElem hl))
  · omega
set_option maxHeartbeats 4000000 in
theorem rat_any (q : Option Addr) (cap n : Nat) (l : List Rt) (x : Pfx) (w : World) (hn : n = l.length) (hc : CI layR w q cap l) (i : Nat) (hi0 : i = pos l x) (R : Bool) (hR0 : R = true ↔ Is l x) :
    Calls Tryd.prog 32 #[.agg #[.slice q n cap], .agg #[.int .i64 x.adr, .int .i64 x.len]] w fun e w' => e = .returned (.tuple #[.int .i64 i, .bool R]) ∧ Gr w w' := by
  have hl := hc.len_le
  obtain ⟨a, b⟩ := x
  simp only
  obtain ⟨T, hT⟩ : ∃ T, T = (w.alloc (.cells #[.slice q n cap] 47)).alloc (.cells #[.int .i64 a, .int .i64 b] 36) := ⟨_, rfl⟩
  have hGT : Gr w T := ⟨0, _, by rw [hT, alloc_eq_grow, alloc_eq_grow, grow_grow]; rfl⟩
  have hs0 : w.heap.size < T.heap.size := by rw [hT]; simp; omega
  have hs1 : w.heap.size + 1 < T.heap.size := by rw [hT]; simp
  have c0 : T.cell? ⟨w.heap.size, 0, none⟩ = some (.slice q n cap) := by
    rw [hT]
    exact ((balloc (brefl _) _).cell (p := ⟨w.heap.size, 0, none⟩) (by simp)).trans (new_slice w q n cap _)
  have b0 : Box T (w.heap.size + 1) ⟨a, b⟩ := by
    rw [hT]
    have h := Box.new (w.alloc (.cells #[.slice q n cap] 47)) ⟨a, b⟩ 36
    simpa using h
  have hCT := hc.below hGT.below
  have HF := Lib.hid (fun W (h : Gr T W) => (show (w.heap.size < W.heap.size ∧ W.cell? ⟨w.heap.size, 0, none⟩ = some (.slice q n cap)) ∧ Box W (w.heap.size + 1) ⟨a, b⟩ ∧ CI layR W q cap l from
    ⟨⟨Nat.lt_of_lt_of_le hs0 h.below.size, (h.below.cell (p := ⟨w.heap.size, 0, none⟩) hs0).trans c0⟩, b0.below h.below hs1, hCT.below h.below⟩))
  have hmix := mixed
  have HGT := Lib.hid hGT
  have HC := Lib.hid hCT
  have HN := Lib.hid hn
  have HI := Lib.hid hi0
  have HR := Lib.hid hR0
  have hln : n ≤ 9223372036854775807 := by omega
  clear hGT hCT hn hi0 hR0 hc hl c0 b0 hs0 hs1
  go_enter Tryd.func32, Tryd.ntmps32
  go_wp2_with fail
  rw [← hT]
  clear hT
  generalize w.heap.size = pb at *
  go_loopw [6] (fun iv wr => ∃ (k : Nat), iv = .int .i64 k ∧ k ≤ n ∧ Hid (k ≤ pos l ⟨a, b⟩) ∧ Gr T wr) (fun i _ => n - (intOf i).toNat)
  case atStart => exact ⟨0, by rfl, Nat.zero_le _, Nat.zero_le _, Gr.refl T⟩
  case round =>
    obtain ⟨k, rfl, hk, HK, hG⟩ := hrel
    obtain ⟨⟨hpw, c0⟩, b0, hCw⟩ := HF.out wr hG
    have gs := fun n os => cell_grown (a := ⟨pb, 0, none⟩) hpw c0 n os
    have gp0 := fun n os => (Box.grown b0 n os).1
    have gp1 := fun n os => (Box.grown b0 n os).2
    simp only at gp0 gp1
    by_cases hlt : k < n
    · have t0 : decide ((k : Int) < (n : Int)) = true := decide_eq_true (by omega)
      obtain ⟨bb, off, rfl, hbw, hcell⟩ := hCw.2.2 (by rw [← HN.out]; omega)
      obtain ⟨⟨x1, x2, x3⟩, hx⟩ : ∃ x, l[k]? = some x := ⟨_, List.getElem?_eq_getElem (by rw [← HN.out]; exact hlt)⟩
      have x0' : wr.cell? ⟨bb, off + k * 3, none⟩ = some (.int .i64 x1) := hcell k _ hx 0 _ rfl
      have x1' : wr.cell? ⟨bb, off + k * 3 + 1, none⟩ = some (.int .i64 x2) := hcell k _ hx 1 _ rfl
      have gx0 := fun n os => cell_grown (a := ⟨bb, off + k * 3, none⟩) hbw x0' n os
      have gx1 := fun n os => cell_grown (a := ⟨bb, off + k * 3 + 1, none⟩) hbw x1' n os
      have i0 : (0 : Int) ≤ (k : Int) := by omega
      have i1 : (k : Int) < (n : Int) := by omega
      have HX := Lib.hid hx
      clear hcell hx x0' x1' hCw c0 b0
      by_cases h1 : x1 < a
      · have u1 : decide (x1 < a) = true := decide_eq_true h1
        have hlt' : Lt (key ⟨x1, x2, x3⟩) ⟨a, b⟩ := .inl h1
        have HK2 := Lib.hid (pos_step l ⟨a, b⟩ k _ HX.out hlt' HK.out)
        clear hlt' h1
        go_wp2_with fail
        refine wp_region_quiet_grown (by assumption) (by kernel_rfl) ?_
        repeat (first | go_big_quiet_step (fail) | quiet_step (fail))
        refine wpQuiet_nil ?_
        intro _ hw'
        obtain ⟨⟨nq, osq⟩, hw''⟩ := hw'
        subst hw''
        go_wp2_with fail
        go_roundw
        case rel => exact ⟨k + 1, by first | rfl | go_num, by omega, HK2.out, hG.trans (show Gr wr (grow (wr.drewN nq) osq) from ⟨nq, osq, rfl⟩)⟩
        case measure => simp [intOf]; omega
      · have u1 : decide (x1 < a) = false := decide_eq_false h1
        by_cases h2 : x1 = a
        · have u2 : (x1 == a) = true := by simp [h2]
          have u2' : decide (x1 = a) = true := decide_eq_true h2
          by_cases h3 : x2 < b
          · have u3 : decide (x2 < b) = true := decide_eq_true h3
            have hlt' : Lt (key ⟨x1, x2, x3⟩) ⟨a, b⟩ := .inr ⟨h2, h3⟩
            clear h2
            have HK2 := Lib.hid (pos_step l ⟨a, b⟩ k _ HX.out hlt' HK.out)
            clear hlt' h1
            go_wp2_with fail
            refine wp_region_quiet_grown (by assumption) (by kernel_rfl) ?_
            repeat (first | go_big_quiet_step (fail) | quiet_step (fail))
            refine wpQuiet_nil ?_
            intro _ hw'
            obtain ⟨⟨nq, osq⟩, hw''⟩ := hw'
            subst hw''
            go_wp2_with fail
            go_roundw
            case rel => exact ⟨k + 1, by first | rfl | go_num, by omega, HK2.out, hG.trans (show Gr wr (grow (wr.drewN nq) osq) from ⟨nq, osq, rfl⟩)⟩
            case measure => simp [intOf]; omega
          · have u3 : decide (x2 < b) = false := decide_eq_false h3
            have hst : ¬ Lt (key ⟨x1, x2, x3⟩) ⟨a, b⟩ := fun h => h.elim (fun h => h1 h) (fun h => h3 h.2)
            by_cases h4 : x2 = b
            · have hR : R = true := HR.out.2 ⟨⟨x1, x2, x3⟩, by rw [← pos_stop l ⟨a, b⟩ k (fun r hr => by rw [HX.out] at hr; rw [← Option.some.inj hr]; exact hst) HK.out]; exact HX.out, by unfold key; rw [h2, h4]⟩
              have E : ∀ W, (Op.equalIn 10000 36 (.agg #[.int .i64 x1, .int .i64 x2]) (.agg #[.int .i64 a, .int .i64 b])).run Tryd.prog W = .ok true W := fun W => by rw [eqX]; simp [h2, h4]
              clear h2 h4
              have hi := Lib.hid (show i = k from by rw [HI.out, ← pos_stop l ⟨a, b⟩ k (fun r hr => by rw [HX.out] at hr; rw [← Option.some.inj hr]; exact hst) HK.out])
              subst hR
              clear hst
              go_wp2_with fail
              refine wp_region_quiet_grown (by assumption) (by kernel_rfl) ?_
              repeat (first | go_big_quiet_step (fail) | quiet_step (fail))
              refine wpQuiet_nil ?_
              intro _ hw'
              obtain ⟨⟨nq, osq⟩, hw''⟩ := hw'
              subst hw''
              have hG2 : Gr T (grow (wr.drewN nq) osq) := hG.trans ⟨nq, osq, rfl⟩
              have X9 := And.intro (gx0 nq osq) (gx1 nq osq)
              have hb9 : bb < (grow (wr.drewN nq) osq).heap.size := Nat.lt_of_lt_of_le hbw (show Gr wr (grow (wr.drewN nq) osq) from ⟨nq, osq, rfl⟩).below.size
              clear gx0 gx1
              clear gs gp0 gp1 
              generalize grow (wr.drewN nq) osq = w9 at hG2 X9 hb9 ⊢
              obtain ⟨⟨hp9, c9⟩, b9, hC9⟩ := HF.out w9 hG2
              have gs := fun n os => cell_grown (a := ⟨pb, 0, none⟩) hp9 c9 n os
              have gp0 := fun n os => (Box.grown b9 n os).1
              have gp1 := fun n os => (Box.grown b9 n os).2
              simp only at gp0 gp1
              clear c9 b9 hC9
              have gx0 := fun n os => cell_grown (a := ⟨bb, off + k * 3, none⟩) hb9 X9.1 n os
              have gx1 := fun n os => cell_grown (a := ⟨bb, off + k * 3 + 1, none⟩) hb9 X9.2 n os
              go_wp2_with fail
              refine wp_region_quiet_grown (by assumption) (by kernel_rfl) ?_
              repeat (first | go_big_quiet_step (fail) | quiet_step (fail))
              refine wpQuiet_nil ?_
              intro _ hw'
              obtain ⟨⟨nq, osq⟩, hw''⟩ := hw'
              subst hw''
              go_wp2_with fail
              go_ret2
              exact ⟨by rw [hi.out]; rfl, HGT.out.trans (hG2.trans ⟨nq, osq, rfl⟩)⟩
            · have E : ∀ W, (Op.equalIn 10000 36 (.agg #[.int .i64 x1, .int .i64 x2]) (.agg #[.int .i64 a, .int .i64 b])).run Tryd.prog W = .ok false W := fun W => by rw [eqX]; simp [h4]
              have hR : R = false := by
                cases R
                · rfl
                · obtain ⟨r, hr, e⟩ := HR.out.1 rfl
                  rw [← pos_stop l ⟨a, b⟩ k (fun r hr => by rw [HX.out] at hr; rw [← Option.some.inj hr]; exact hst) HK.out, HX.out] at hr
                  rw [← Option.some.inj hr] at e
                  unfold key at e
                  simp only [Pfx.mk.injEq] at e
                  exact absurd e.2 h4
              clear h2 h4
              have hi := Lib.hid (show i = k from by rw [HI.out, ← pos_stop l ⟨a, b⟩ k (fun r hr => by rw [HX.out] at hr; rw [← Option.some.inj hr]; exact hst) HK.out])
              subst hR
              clear hst
              go_wp2_with fail
              refine wp_region_quiet_grown (by assumption) (by kernel_rfl) ?_
              repeat (first | go_big_quiet_step (fail) | quiet_step (fail))
              refine wpQuiet_nil ?_
              intro _ hw'
              obtain ⟨⟨nq, osq⟩, hw''⟩ := hw'
              subst hw''
              have hG2 : Gr T (grow (wr.drewN nq) osq) := hG.trans ⟨nq, osq, rfl⟩
              have X9 := And.intro (gx0 nq osq) (gx1 nq osq)
              have hb9 : bb < (grow (wr.drewN nq) osq).heap.size := Nat.lt_of_lt_of_le hbw (show Gr wr (grow (wr.drewN nq) osq) from ⟨nq, osq, rfl⟩).below.size
              clear gx0 gx1
              clear gs gp0 gp1 
              generalize grow (wr.drewN nq) osq = w9 at hG2 X9 hb9 ⊢
              obtain ⟨⟨hp9, c9⟩, b9, hC9⟩ := HF.out w9 hG2
              have gs := fun n os => cell_grown (a := ⟨pb, 0, none⟩) hp9 c9 n os
              have gp0 := fun n os => (Box.grown b9 n os).1
              have gp1 := fun n os => (Box.grown b9 n os).2
              simp only at gp0 gp1
              clear c9 b9 hC9
              have gx0 := fun n os => cell_grown (a := ⟨bb, off + k * 3, none⟩) hb9 X9.1 n os
              have gx1 := fun n os => cell_grown (a := ⟨bb, off + k * 3 + 1, none⟩) hb9 X9.2 n os
              go_wp2_with fail
              refine wp_region_quiet_grown (by assumption) (by kernel_rfl) ?_
              repeat (first | go_big_quiet_step (fail) | quiet_step (fail))
              refine wpQuiet_nil ?_
              intro _ hw'
              obtain ⟨⟨nq, osq⟩, hw''⟩ := hw'
              subst hw''
              go_wp2_with fail
              go_ret2
              exact ⟨by rw [hi.out]; rfl, HGT.out.trans (hG2.trans ⟨nq, osq, rfl⟩)⟩
        · have u2 : (x1 == a) = false := by simp [h2]
          have u2' : decide (x1 = a) = false := decide_eq_false h2
          have hst : ¬ Lt (key ⟨x1, x2, x3⟩) ⟨a, b⟩ := fun h => h.elim (fun h => h1 h) (fun h => h2 h.1)
          have E : ∀ W, (Op.equalIn 10000 36 (.agg #[.int .i64 x1, .int .i64 x2]) (.agg #[.int .i64 a, .int .i64 b])).run Tryd.prog W = .ok false W := fun W => by rw [eqX]; simp [h2]
          have hR : R = false := by
            cases R
            · rfl
            · obtain ⟨r, hr, e⟩ := HR.out.1 rfl
              rw [← pos_stop l ⟨a, b⟩ k (fun r hr => by rw [HX.out] at hr; rw [← Option.some.inj hr]; exact hst) HK.out, HX.out] at hr
              rw [← Option.some.inj hr] at e
              unfold key at e
              simp only [Pfx.mk.injEq] at e
              exact absurd e.1 h2
          clear h2
          have hi := Lib.hid (show i = k from by rw [HI.out, ← pos_stop l ⟨a, b⟩ k (fun r hr => by rw [HX.out] at hr; rw [← Option.some.inj hr]; exact hst) HK.out])
          subst hR
          clear hst
          go_wp2_with fail
          refine wp_region_quiet_grown (by assumption) (by kernel_rfl) ?_
          repeat (first | go_big_quiet_step (fail) | quiet_step (fail))
          refine wpQuiet_nil ?_
          intro _ hw'
          obtain ⟨⟨nq, osq⟩, hw''⟩ := hw'
          subst hw''
          have hG2 : Gr T (grow (wr.drewN nq) osq) := hG.trans ⟨nq, osq, rfl⟩
          have X9 := And.intro (gx0 nq osq) (gx1 nq osq)
          have hb9 : bb < (grow (wr.drewN nq) osq).heap.size := Nat.lt_of_lt_of_le hbw (show Gr wr (grow (wr.drewN nq) osq) from ⟨nq, osq, rfl⟩).below.size
          clear gx0 gx1
          clear gs gp0 gp1 
          generalize grow (wr.drewN nq) osq = w9 at hG2 X9 hb9 ⊢
          obtain ⟨⟨hp9, c9⟩, b9, hC9⟩ := HF.out w9 hG2
          have gs := fun n os => cell_grown (a := ⟨pb, 0, none⟩) hp9 c9 n os
          have gp0 := fun n os => (Box.grown b9 n os).1
          have gp1 := fun n os => (Box.grown b9 n os).2
          simp only at gp0 gp1
          clear c9 b9 hC9
          have gx0 := fun n os => cell_grown (a := ⟨bb, off + k * 3, none⟩) hb9 X9.1 n os
          have gx1 := fun n os => cell_grown (a := ⟨bb, off + k * 3 + 1, none⟩) hb9 X9.2 n os
          go_wp2_with fail
          refine wp_region_quiet_grown (by assumption) (by kernel_rfl) ?_
          repeat (first | go_big_quiet_step (fail) | quiet_step (fail))
          refine wpQuiet_nil ?_
          intro _ hw'
          obtain ⟨⟨nq, osq⟩, hw''⟩ := hw'
          subst hw''
          go_wp2_with fail
          go_ret2
          exact ⟨by rw [hi.out]; rfl, HGT.out.trans (hG2.trans ⟨nq, osq, rfl⟩)⟩
    · obtain rfl : k = n := by omega
      have t0 : decide ((k : Int) < (k : Int)) = false := decide_eq_false (by omega)
      have hnone : ∀ r, l[k]? = some r → ¬ Lt (key r) ⟨a, b⟩ := fun r hr => by rw [List.getElem?_eq_none (by rw [← HN.out]; exact Nat.le_refl _)] at hr; cases hr
      have hi := Lib.hid (show i = k from by rw [HI.out, ← pos_stop l ⟨a, b⟩ k hnone HK.out])
      have hR : R = false := by
        cases R
        · rfl
        · obtain ⟨r, hr, _⟩ := HR.out.1 rfl
          rw [← pos_stop l ⟨a, b⟩ k hnone HK.out, List.getElem?_eq_none (by rw [← HN.out]; exact Nat.le_refl _)] at hr
          cases hr
      subst hR
      clear hnone
      go_wp2_with fail
      refine wp_region_quiet_grown (by assumption) (by kernel_rfl) ?_
      repeat (first | go_big_quiet_step (fail) | quiet_step (fail))
      refine wpQuiet_nil ?_
      intro _ hw'
      obtain ⟨⟨nq, osq⟩, hw''⟩ := hw'
      subst hw''
      have hG2 : Gr T (grow (wr.drewN nq) osq) := hG.trans ⟨nq, osq, rfl⟩
      clear gs gp0 gp1 
      generalize grow (wr.drewN nq) osq = w9 at hG2 ⊢
      obtain ⟨⟨hp9, c9⟩, b9, hC9⟩ := HF.out w9 hG2
      have gs := fun n os => cell_grown (a := ⟨pb, 0, none⟩) hp9 c9 n os
      have gp0 := fun n os => (Box.grown b9 n os).1
      have gp1 := fun n os => (Box.grown b9 n os).2
      simp only at gp0 gp1
      clear c9 b9 hC9
      go_wp2_with fail
      refine wp_region_quiet_grown (by assumption) (by kernel_rfl) ?_
      repeat (first | go_big_quiet_step (fail) | quiet_step (fail))
      refine wpQuiet_nil ?_
      intro _ hw'
      obtain ⟨⟨nq, osq⟩, hw''⟩ := hw'
      subst hw''
      go_wp2_with fail
      go_ret2
      exact ⟨by rw [hi.out]; rfl, HGT.out.trans (hG2.trans ⟨nq, osq, rfl⟩)⟩
end Go.Proofs.YtapaglapngbbpaaDoor.Route

