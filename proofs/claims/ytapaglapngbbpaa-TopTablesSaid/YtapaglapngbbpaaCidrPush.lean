/- The contract of what cidr.gather returns first, where a prefix is added. No statement is proved here. -/
import Derived.Test.YtapaglapngbbpaaCidrGather
import Derived.IntWalk
namespace Go.Proofs.Ytapaglapngbbpaa.Cidr
open Go.ChangeShapes Go.WideShapes Go.ChangeAt Go.RowKit Go.Sort Go.Proofs.Ytapaglapngbbpaa.Kit Go.Proofs.Ytapaglapngbbpaa.App Go.Proofs.Ytapaglapngbbpaa.Cells Go.Proofs.Ytapaglapngbbpaa.CidrMath
set_option linter.unusedVariables false
set_option maxRecDepth 20000

structure At (wr : World) (base gb g cap n : Nat) (P L0 : List Pfx) (z : Pfx) : Prop where
  cnt : n = L0.length + 1
  S : St wr base gb (.slice (some ⟨g, 0, none⟩) n cap) (L0 ++ [z])
  M : Mid P L0 z
theorem Gr.drewN (w : World) (n : Nat) (os : Array Obj) : Gr w (grow (w.drewN n) os) := ⟨n, os, rfl⟩
theorem below_gr {base : Nat} {a b c : World} (h : Below base a b) (hb : base ≤ b.heap.size) (g : Gr b c) : Below base a c := h.trans (g.below.mono hb)

set_option maxHeartbeats 4000000 in
theorem add_first (p : Pfx) (w : World) (base gb : Nat) (v : Value) (P : List Pfx) (S : St w base gb v []) (I : Inv P []) (ho : ∀ q ∈ P, ¬ Before p q) (hp : CidrMath.Good p) (hbase : base ≤ w.heap.size) :
    Calls Try.prog 32 #[.agg #[.int .i64 p.adr, .int .i64 p.len], .pointer (some ⟨gb, 0, none⟩)] w fun e w' => e = .returned (.tuple #[]) ∧ ∃ v' L', St w' base gb v' L' ∧ Inv (P ++ [p]) L' ∧ Kp base gb w w' := by
  have HP := Lib.hid (I.push ho hp (fun L0 y e => by simp at e))
  obtain ⟨q, c, rfl, hCI⟩ := S.own.form
  have S1 := S.below (balloc (brefl w) (.cells #[.int .i64 p.adr, .int .i64 p.len] 24))
  have B0 := Box.new w p 24
  have c0 := S1.cell
  have gc := fun n os => cell_grown (a := ⟨gb, 0, none⟩) S1.b.2 c0 n os
  have hmix := mixed
  simp only [List.length_nil] at c0 gc
  clear I ho hp hCI S1
  go_enter Try.func32, Try.ntmps32
  go_wp2_with fail
  refine wp_region_quiet_grown (by assumption) (by kernel_rfl) ?_
  repeat (first | go_big_quiet_skip | quiet_step (fail))
  refine wpQuiet_nil ?_
  intro _ hw'
  obtain ⟨⟨nq, osq⟩, hw''⟩ := hw'
  subst hw''
  have hGr : Gr w (grow ((w.alloc (.cells #[.int .i64 p.adr, .int .i64 p.len] 24)).drewN nq) osq) := ⟨nq, _, by rw [alloc_eq_grow, drewN_grow_grow]⟩
  have S2 := S.below hGr.below
  have B2 := B0.below (Gr.drewN _ nq osq).below B0.1
  have hB2 : Below base w (grow ((w.alloc (.cells #[.int .i64 p.adr, .int .i64 p.len] 24)).drewN nq) osq) := hGr.below.mono hbase
  have hs2 := Nat.le_trans hbase hGr.below.size
  clear gc c0 S B0
  generalize grow ((w.alloc (.cells #[.int .i64 p.adr, .int .i64 p.len] 24)).drewN nq) osq = w2 at S2 B2 hB2 hs2 ⊢
  clear hGr
  generalize w.heap.size = pb at B2 ⊢
  obtain ⟨hpb, b0, b1⟩ := B2
  have c2 := S2.cell
  have hgb2 := S2.b
  have S2' := Lib.hid S2
  have hLm := Lib.hid (show (([] : List Pfx)).length = 0 from rfl)
  clear S2
  go_wp2_with (at_builtin
               refine wp_appC ty rfl (.tmp 19) (.tmp 21) rfl base _ (([] : List Pfx)) (some ⟨w2.heap.size, 0, none⟩) 1 1 [p] rfl (S2'.out.own.alloc _) rfl rfl (CI.one lay w2 p _) (by rw [hLm.out, List.length_singleton]; omega) (Nat.le_trans hs2 (by simp)) ?_
               intro v1 wa hown1 hg1 hat1
               obtain ⟨g1, cap1, ev1, hgb1, hgl1, hcl1, hcm1⟩ := oc_some hown1 (by simp)
               rw [List.length_append, List.length_singleton, hLm.out] at ev1 hcl1
               have hba : Below base w wa := below_oneC hB2 hs2 _ S2'.out.own hg1
               have hbk := hg1.block gb (by simp; omega) (fun e => S2'.out.ne e.symm)
               have ca := (World.cell?_of_block (w := w2.alloc _) (a := ⟨gb, 0, none⟩) hbk).trans (((balloc (brefl w2) _).cell (p := ⟨gb, 0, none⟩) hgb2.2).trans c2)
               have fa := (frozen_of_block (a := ⟨gb, 0, none⟩) hbk).trans ((frozen_of_block (a := ⟨gb, 0, none⟩) ((balloc (brefl w2) _).block _ hgb2.2)).trans S2'.out.fz)
               have hne1 : v1.ownBlock ≠ some gb := by
                 rcases hat1 with h | h
                 · rw [h]; exact S2'.out.ne
                 · rw [h]; intro e; have := Option.some.inj e; simp at this; omega
               have hga : gb < base ∧ gb < wa.heap.size := ⟨hgb2.1, Nat.lt_of_lt_of_le hgb2.2 (Nat.le_trans (by simp) hg1.size)⟩
               have Sa := St.put ca fa hga hown1 hne1
               subst ev1
               have cb := Sa.cell
               have SA := Lib.hid Sa
               have HBA := Lib.hid ((Kp.of (gb := gb) hba).setgb (o := 0) (v := .slice (some ⟨g1, 0, none⟩) (0 + 1) cap1))
               clear hat1 hg1 hba hbk Sa hown1 hne1)
  go_loopw [4] (fun i wr => ∃ (n : Nat) (L0 : List Pfx) (z : Pfx) (g cap : Nat), i = .int .i64 n ∧ 1 ≤ n ∧ n ≤ 33 ∧ Hid (At wr base gb g cap n (P ++ [p]) L0 z) ∧ Kp base gb w wr) (fun i _ => (intOf i).toNat)
  case atStart => exact ⟨1, [], p, g1, cap1, by first | rfl | go_num, by omega, by omega, ⟨rfl, SA.out, HP.out⟩, HBA.out⟩
  case round =>
    obtain ⟨n, L0, z, g, cap, rfl, hn1, hn33, H, hB⟩ := hrel
    have hBs := Nat.le_trans hbase hB.size
    rcases List.eq_nil_or_concat L0 with hL | ⟨L1, y, hL⟩
    · have hn : n = 1 := by rw [H.out.cnt, hL]; rfl
      subst hn
      have hI := H.out.M.done (fun L0' y' e => absurd e (by rw [hL]; simp))
      have hG := fun (n : Nat) (os : Array Obj) => H.out.S.below (Gr.drewN wr n os).below
      have HI := Lib.hid hI
      clear hI hL
      go_wp2_with fail
      refine wp_region_quiet_grown (by assumption) (by kernel_rfl) ?_
      repeat (first | go_big_quiet_skip | quiet_step (fail))
      refine wpQuiet_nil ?_
      intro _ hw'
      obtain ⟨⟨nq, osq⟩, hw''⟩ := hw'
      subst hw''
      go_wp2_with fail
      go_end0
      exact ⟨rfl, _, _, hG _ _, HI.out, hB.gr hBs (Gr.drewN _ _ _)⟩
    · rw [List.concat_eq_append] at hL
      subst hL
      obtain ⟨k, hk⟩ : ∃ k, L1.length = k := ⟨_, rfl⟩
      have hn : n = k + 2 := by rw [H.out.cnt, List.length_append, hk]; rfl
      subst hn
      have HK := Lib.hid hk
      have gy := H.out.M.good y (by simp)
      have gz := H.out.M.goodz
      have hends := H.out.M.ends y (by simp)
      obtain ⟨y0, y1, _⟩ := oc_at H.out.S.own (by simp [hk]) k y (by rw [List.append_assoc, List.getElem?_append_right (by omega), hk]; simp)
      obtain ⟨z0, z1, _⟩ := oc_at H.out.S.own (by simp [hk]) (k + 1) z (get_last _ _ _ (by simp [hk]))
      obtain ⟨g', cap', ev, hgb, hgl, hcl, hcm⟩ := oc_some H.out.S.own (by simp)
      simp only [Value.slice.injEq, Option.some.injEq, Addr.mk.injEq] at ev
      obtain ⟨⟨rfl, _, _⟩, hx, rfl⟩ := ev
      clear hx
      rw [List.length_append, List.length_append, hk] at hcl
      simp only [List.length_singleton] at hcl
      have hbl := H.out.S.b.2
      have c0 := H.out.S.cell
      have gy0 := fun n os => cell_grown (a := ⟨g, k * 2, none⟩) hgl y0 n os
      have gy1 := fun n os => cell_grown (a := ⟨g, k * 2 + 1, none⟩) hgl y1 n os
      have gz0 := fun n os => cell_grown (a := ⟨g, (k + 1) * 2, none⟩) hgl z0 n os
      have gz1 := fun n os => cell_grown (a := ⟨g, (k + 1) * 2 + 1, none⟩) hgl z1 n os
      have gc := fun n os => cell_grown (a := ⟨gb, 0, none⟩) hbl c0 n os
      have t0 : decide ((k : Int) + 2 > 1) = true := decide_eq_true (by omega)
      have t0' : decide (1 < (k : Int) + 2) = true := decide_eq_true (by omega)
      have i0 : (0 : Int) ≤ (k : Int) := by omega
      have i1 : (k : Int) < (k : Int) + 2 := by omega
      have i2 : (0 : Int) ≤ (k : Int) + 1 := by omega
      have i3 : (k : Int) + 1 < (k : Int) + 2 := by omega
      have i4 : ((k : Int) + 1).toNat = k + 1 := by omega
      have i5 : (k : Int) + 1 ≤ (cap : Int) := by omega
      have i6 : (k : Int) < (k : Int) + 1 := by omega
      have r0 : IntKind.i64.wrap (k : Int) = (k : Int) := by rw [IntKind.wrap_i64]; omega
      have r1 : IntKind.i64.wrap ((k : Int) + 1) = (k : Int) + 1 := by rw [IntKind.wrap_i64]; omega
      have r2 : IntKind.i64.wrap ((k : Int) + 2 - 1) = (k : Int) + 1 := by rw [IntKind.wrap_i64]; omega
      have r3 : IntKind.i64.wrap ((k : Int) + 2 - 2) = (k : Int) := by rw [IntKind.wrap_i64]; omega
      have hyl := good_len gy
      have r4 : IntKind.i64.wrap (y.len - 1) = y.len - 1 := by rw [IntKind.wrap_i64]; omega
      have hG := fun (n : Nat) (os : Array Obj) => H.out.S.below (Gr.drewN wr n os).below
      have HG := Lib.hid hG
      have HA := fun R hR W => halves_any y z gy gz hends W R hR
      clear hG y0 y1 z0 z1 c0 hk gy gz hends hbl
      by_cases hh : Halves y z
      · have hcg := fun n os => HA true ⟨fun _ => hh, fun _ => rfl⟩ (grow (wr.drewN n) os)
        have HM := Lib.hid (H.out.M.merge hh)
        clear HA hh
        go_wp2_with fail
        refine wp_region_quiet_grown (by assumption) (by kernel_rfl) ?_
        repeat (first | go_big_quiet_skip | quiet_step (refine Calls.grown_of (hcg _ _)))
        refine wpQuiet_nil ?_
        intro _ hw'
        obtain ⟨⟨nq, osq⟩, hw''⟩ := hw'
        subst hw''
        have S3 := HG.out nq osq
        have hB3 : Kp base gb w (grow (wr.drewN nq) osq) := hB.gr hBs (Gr.drewN _ _ _)
        clear HG gy0 gy1 gz0 gz1 gc hcg
        generalize grow (wr.drewN nq) osq = w3 at S3 hB3 ⊢
        have c3 := S3.cell
        have f3 := S3.fz
        have S4 := St.put c3 f3 S3.b (oc_cut S3.own (show k + 1 = (L1 ++ [y]).length by simp [HK.out])) (by exact S3.ne)
        have c4 := S4.cell
        obtain ⟨y0, y1, yf⟩ := oc_at S4.own (by simp [HK.out]) k y (get_last _ _ _ HK.out)
        have yf1 := yf (k * 2 + 1)
        have S5 := S4.set k HK.out rfl (y.len - 1)
        have HS := Lib.hid S5
        have hB5 : Kp base gb w ((w3.setCell ⟨gb, 0, none⟩ (.slice (some ⟨g, 0, none⟩) (k + 1) cap)).setCell ⟨g, k * 2 + 1, none⟩ (.int .i64 (y.len - 1))) := (hB3.setgb).set hgb
        have HB5 := Lib.hid hB5
        clear S3 S4 S5 hB5 yf hB3 hB
        go_wp2_with fail
        go_roundw
        case rel => exact ⟨k + 1, L1, ⟨y.adr, y.len - 1⟩, g, cap, by first | rfl | go_num, by omega, by omega, ⟨by rw [HK.out], HS.out, HM.out⟩, HB5.out⟩
        case measure => first | (simp [intOf]; done) | (simp [intOf]; omega)
      · have hcg := fun n os => HA false ⟨fun h => by simp at h, fun h => absurd h hh⟩ (grow (wr.drewN n) os)
        have HI := Lib.hid (H.out.M.done (fun L0' y' e => by
          obtain ⟨_, e2⟩ := List.append_inj' e rfl
          have e3 : y = y' := by simpa using e2
          rw [← e3]; exact hh))
        clear HA hh
        go_wp2_with fail
        refine wp_region_quiet_grown (by assumption) (by kernel_rfl) ?_
        repeat (first | go_big_quiet_skip | quiet_step (refine Calls.grown_of (hcg _ _)))
        refine wpQuiet_nil ?_
        intro _ hw'
        obtain ⟨⟨nq, osq⟩, hw''⟩ := hw'
        subst hw''
        go_wp2_with fail
        go_end0
        exact ⟨rfl, _, _, HG.out _ _, HI.out, hB.gr hBs (Gr.drewN _ _ _)⟩

set_option maxHeartbeats 4000000 in
theorem add_more (p y : Pfx) (w : World) (base gb : Nat) (v : Value) (Lh P : List Pfx) (S : St w base gb v (Lh ++ [y])) (I : Inv P (Lh ++ [y])) (ho : ∀ q ∈ P, ¬ Before p q) (hp : CidrMath.Good p) (hlen : P.length ≤ 32) (hin : ¬ (y.adr ≤ p.adr ∧ p.adr < y.adr + siz y)) (hbase : base ≤ w.heap.size) :
    Calls Try.prog 32 #[.agg #[.int .i64 p.adr, .int .i64 p.len], .pointer (some ⟨gb, 0, none⟩)] w fun e w' => e = .returned (.tuple #[]) ∧ ∃ v' L', St w' base gb v' L' ∧ Inv (P ++ [p]) L' ∧ Kp base gb w w' := by
  have HP := Lib.hid (I.push ho hp (fun L0' y' e => by
    obtain ⟨_, e2⟩ := List.append_inj' e rfl
    have e3 : y = y' := by simpa using e2
    rw [← e3]; exact hin))
  have gy := I.good y (by simp)
  obtain ⟨d, j, hj, hyb, hyb2⟩ := good_mem gy
  obtain ⟨b, hb, hpb⟩ := good_adr hp
  have hb2 := good_lt hp hpb
  have hl16 : y.len = 16 - (j : Int) := by rw [hyb]; rfl
  have hya : 0 ≤ y.adr ∧ y.adr ≤ 65535 := by
    have : y.adr = ((d * 2 ^ j : Nat) : Int) := by rw [hyb]; rfl
    have := pow_pos' j
    omega
  have hzz : siz y = 2 ^ j := by rw [hyb]; exact siz_blk _ j
  have CO := Lib.hid (fun W => comprises_any y j hj hl16 p.adr hya ⟨by omega, by omega⟩ W false (by rw [← hzz]; exact ⟨fun h => by simp at h, fun h => absurd h hin⟩))
  unfold val at CO
  have hll := I.len
  rw [List.length_append, List.length_singleton] at hll
  obtain ⟨g, cap, rfl, hgb, hgl, hcl, hcm⟩ := oc_some S.own (by simp)
  obtain ⟨m, hm⟩ : ∃ m, Lh.length = m := ⟨_, rfl⟩
  rw [List.length_append, List.length_singleton, hm] at S hcl
  have S1 := S.below (balloc (brefl w) (.cells #[.int .i64 p.adr, .int .i64 p.len] 24))
  obtain ⟨y0, y1, _⟩ := oc_at S1.own (by simp [hm]) m y (get_last _ _ _ hm)
  have c0 := S1.cell
  have hbl := S1.b.2
  have B0 := Box.new w p 24
  have hgl1 : g < (w.alloc (.cells #[.int .i64 p.adr, .int .i64 p.len] 24)).heap.size := by simp; omega
  have g0 := fun n os => (Box.grown B0 n os).1
  have gy0 := fun n os => cell_grown (a := ⟨g, m * 2, none⟩) hgl1 y0 n os
  have gy1 := fun n os => cell_grown (a := ⟨g, m * 2 + 1, none⟩) hgl1 y1 n os
  have gc := fun n os => cell_grown (a := ⟨gb, 0, none⟩) hbl c0 n os
  have hcg := fun n os => CO.out (grow ((w.alloc (.cells #[.int .i64 p.adr, .int .i64 p.len] 24)).drewN n) os)
  have hmix := mixed
  have t0 : decide ((m : Int) + 1 > 0) = true := decide_eq_true (by omega)
  have t0' : decide (0 < (m : Int) + 1) = true := decide_eq_true (by omega)
  have i0 : (0 : Int) ≤ (m : Int) := by omega
  have i1 : (m : Int) < (m : Int) + 1 := by omega
  have r1 : IntKind.i64.wrap ((m : Int) + 1 - 1) = (m : Int) := by rw [IntKind.wrap_i64]; omega
  have r0 : IntKind.i64.wrap (m : Int) = (m : Int) := by rw [IntKind.wrap_i64]; omega
  have r2 : IntKind.i64.wrap ((m : Int) + 1) = (m : Int) + 1 := by rw [IntKind.wrap_i64]; omega
  have hm32 : m + 1 ≤ 32 := by omega
  have HM := Lib.hid hm
  clear S1 I ho hp hin gy hyb hyb2 hb hpb hl16 hya hzz CO y0 y1 hbl hgl1 hm
  go_enter Try.func32, Try.ntmps32
  go_wp2_with fail
  refine wp_region_quiet_grown (by assumption) (by kernel_rfl) ?_
  repeat (first | go_big_quiet_skip | quiet_step (refine Calls.grown_of (hcg _ _)))
  refine wpQuiet_nil ?_
  intro _ hw'
  obtain ⟨⟨nq, osq⟩, hw''⟩ := hw'
  subst hw''
  have hGr : Gr w (grow ((w.alloc (.cells #[.int .i64 p.adr, .int .i64 p.len] 24)).drewN nq) osq) := ⟨nq, _, by rw [alloc_eq_grow, drewN_grow_grow]⟩
  have S2 := S.below hGr.below
  have B2 := B0.below (Gr.drewN _ nq osq).below B0.1
  have hB2 : Below base w (grow ((w.alloc (.cells #[.int .i64 p.adr, .int .i64 p.len] 24)).drewN nq) osq) := hGr.below.mono hbase
  have hs2 := Nat.le_trans hbase hGr.below.size
  clear gc c0 S B0 g0 gy0 gy1 hcg t0 t0' i0 i1 r0 r1 r2
  generalize grow ((w.alloc (.cells #[.int .i64 p.adr, .int .i64 p.len] 24)).drewN nq) osq = w2 at S2 B2 hB2 hs2 ⊢
  clear hGr
  generalize w.heap.size = pb at B2 ⊢
  obtain ⟨hpb, b0, b1⟩ := B2
  have c2 := S2.cell
  have hgb2 := S2.b
  have S2' := Lib.hid S2
  have hLm := Lib.hid (show (Lh ++ [y]).length = (m + 1) from (by rw [List.length_append, HM.out]; rfl))
  clear S2
  go_wp2_with (at_builtin
               refine wp_appC ty rfl (.tmp 19) (.tmp 21) rfl base _ (Lh ++ [y]) (some ⟨w2.heap.size, 0, none⟩) 1 1 [p] rfl (S2'.out.own.alloc _) rfl rfl (CI.one lay w2 p _) (by rw [hLm.out, List.length_singleton]; omega) (Nat.le_trans hs2 (by simp)) ?_
               intro v1 wa hown1 hg1 hat1
               obtain ⟨g1, cap1, ev1, hgb1, hgl1, hcl1, hcm1⟩ := oc_some hown1 (by simp)
               rw [List.length_append, List.length_singleton, hLm.out] at ev1 hcl1
               have hba : Below base w wa := below_oneC hB2 hs2 _ S2'.out.own hg1
               have hbk := hg1.block gb (by simp; omega) (fun e => S2'.out.ne e.symm)
               have ca := (World.cell?_of_block (w := w2.alloc _) (a := ⟨gb, 0, none⟩) hbk).trans (((balloc (brefl w2) _).cell (p := ⟨gb, 0, none⟩) hgb2.2).trans c2)
               have fa := (frozen_of_block (a := ⟨gb, 0, none⟩) hbk).trans ((frozen_of_block (a := ⟨gb, 0, none⟩) ((balloc (brefl w2) _).block _ hgb2.2)).trans S2'.out.fz)
               have hne1 : v1.ownBlock ≠ some gb := by
                 rcases hat1 with h | h
                 · rw [h]; exact S2'.out.ne
                 · rw [h]; intro e; have := Option.some.inj e; simp at this; omega
               have hga : gb < base ∧ gb < wa.heap.size := ⟨hgb2.1, Nat.lt_of_lt_of_le hgb2.2 (Nat.le_trans (by simp) hg1.size)⟩
               have Sa := St.put ca fa hga hown1 hne1
               subst ev1
               have cb := Sa.cell
               have SA := Lib.hid Sa
               have HBA := Lib.hid ((Kp.of (gb := gb) hba).setgb (o := 0) (v := .slice (some ⟨g1, 0, none⟩) ((m + 1) + 1) cap1))
               clear hat1 hg1 hba hbk Sa hown1 hne1)
  go_loopw [4] (fun i wr => ∃ (n : Nat) (L0 : List Pfx) (z : Pfx) (g cap : Nat), i = .int .i64 n ∧ 1 ≤ n ∧ n ≤ 33 ∧ Hid (At wr base gb g cap n (P ++ [p]) L0 z) ∧ Kp base gb w wr) (fun i _ => (intOf i).toNat)
  case atStart => exact ⟨m + 1 + 1, Lh ++ [y], p, g1, cap1, by first | rfl | go_num, by omega, by omega, ⟨by rw [hLm.out], SA.out, HP.out⟩, HBA.out⟩
  case round =>
    obtain ⟨n, L0, z, g, cap, rfl, hn1, hn33, H, hB⟩ := hrel
    have hBs := Nat.le_trans hbase hB.size
    rcases List.eq_nil_or_concat L0 with hL | ⟨L1, y, hL⟩
    · have hn : n = 1 := by rw [H.out.cnt, hL]; rfl
      subst hn
      have hI := H.out.M.done (fun L0' y' e => absurd e (by rw [hL]; simp))
      have hG := fun (n : Nat) (os : Array Obj) => H.out.S.below (Gr.drewN wr n os).below
      have HI := Lib.hid hI
      clear hI hL
      go_wp2_with fail
      refine wp_region_quiet_grown (by assumption) (by kernel_rfl) ?_
      repeat (first | go_big_quiet_skip | quiet_step (fail))
      refine wpQuiet_nil ?_
      intro _ hw'
      obtain ⟨⟨nq, osq⟩, hw''⟩ := hw'
      subst hw''
      go_wp2_with fail
      go_end0
      exact ⟨rfl, _, _, hG _ _, HI.out, hB.gr hBs (Gr.drewN _ _ _)⟩
    · rw [List.concat_eq_append] at hL
      subst hL
      obtain ⟨k, hk⟩ : ∃ k, L1.length = k := ⟨_, rfl⟩
      have hn : n = k + 2 := by rw [H.out.cnt, List.length_append, hk]; rfl
      subst hn
      have HK := Lib.hid hk
      have gy := H.out.M.good y (by simp)
      have gz := H.out.M.goodz
      have hends := H.out.M.ends y (by simp)
      obtain ⟨y0, y1, _⟩ := oc_at H.out.S.own (by simp [hk]) k y (by rw [List.append_assoc, List.getElem?_append_right (by omega), hk]; simp)
      obtain ⟨z0, z1, _⟩ := oc_at H.out.S.own (by simp [hk]) (k + 1) z (get_last _ _ _ (by simp [hk]))
      obtain ⟨g', cap', ev, hgb, hgl, hcl, hcm⟩ := oc_some H.out.S.own (by simp)
      simp only [Value.slice.injEq, Option.some.injEq, Addr.mk.injEq] at ev
      obtain ⟨⟨rfl, _, _⟩, hx, rfl⟩ := ev
      clear hx
      rw [List.length_append, List.length_append, hk] at hcl
      simp only [List.length_singleton] at hcl
      have hbl := H.out.S.b.2
      have c0 := H.out.S.cell
      have gy0 := fun n os => cell_grown (a := ⟨g, k * 2, none⟩) hgl y0 n os
      have gy1 := fun n os => cell_grown (a := ⟨g, k * 2 + 1, none⟩) hgl y1 n os
      have gz0 := fun n os => cell_grown (a := ⟨g, (k + 1) * 2, none⟩) hgl z0 n os
      have gz1 := fun n os => cell_grown (a := ⟨g, (k + 1) * 2 + 1, none⟩) hgl z1 n os
      have gc := fun n os => cell_grown (a := ⟨gb, 0, none⟩) hbl c0 n os
      have t0 : decide ((k : Int) + 2 > 1) = true := decide_eq_true (by omega)
      have t0' : decide (1 < (k : Int) + 2) = true := decide_eq_true (by omega)
      have i0 : (0 : Int) ≤ (k : Int) := by omega
      have i1 : (k : Int) < (k : Int) + 2 := by omega
      have i2 : (0 : Int) ≤ (k : Int) + 1 := by omega
      have i3 : (k : Int) + 1 < (k : Int) + 2 := by omega
      have i4 : ((k : Int) + 1).toNat = k + 1 := by omega
      have i5 : (k : Int) + 1 ≤ (cap : Int) := by omega
      have i6 : (k : Int) < (k : Int) + 1 := by omega
      have r0 : IntKind.i64.wrap (k : Int) = (k : Int) := by rw [IntKind.wrap_i64]; omega
      have r1 : IntKind.i64.wrap ((k : Int) + 1) = (k : Int) + 1 := by rw [IntKind.wrap_i64]; omega
      have r2 : IntKind.i64.wrap ((k : Int) + 2 - 1) = (k : Int) + 1 := by rw [IntKind.wrap_i64]; omega
      have r3 : IntKind.i64.wrap ((k : Int) + 2 - 2) = (k : Int) := by rw [IntKind.wrap_i64]; omega
      have hyl := good_len gy
      have r4 : IntKind.i64.wrap (y.len - 1) = y.len - 1 := by rw [IntKind.wrap_i64]; omega
      have hG := fun (n : Nat) (os : Array Obj) => H.out.S.below (Gr.drewN wr n os).below
      have HG := Lib.hid hG
      have HA := fun R hR W => halves_any y z gy gz hends W R hR
      clear hG y0 y1 z0 z1 c0 hk gy gz hends hbl
      by_cases hh : Halves y z
      · have hcg := fun n os => HA true ⟨fun _ => hh, fun _ => rfl⟩ (grow (wr.drewN n) os)
        have HM := Lib.hid (H.out.M.merge hh)
        clear HA hh
        go_wp2_with fail
        refine wp_region_quiet_grown (by assumption) (by kernel_rfl) ?_
        repeat (first | go_big_quiet_skip | quiet_step (refine Calls.grown_of (hcg _ _)))
        refine wpQuiet_nil ?_
        intro _ hw'
        obtain ⟨⟨nq, osq⟩, hw''⟩ := hw'
        subst hw''
        have S3 := HG.out nq osq
        have hB3 : Kp base gb w (grow (wr.drewN nq) osq) := hB.gr hBs (Gr.drewN _ _ _)
        clear HG gy0 gy1 gz0 gz1 gc hcg
        generalize grow (wr.drewN nq) osq = w3 at S3 hB3 ⊢
        have c3 := S3.cell
        have f3 := S3.fz
        have S4 := St.put c3 f3 S3.b (oc_cut S3.own (show k + 1 = (L1 ++ [y]).length by simp [HK.out])) (by exact S3.ne)
        have c4 := S4.cell
        obtain ⟨y0, y1, yf⟩ := oc_at S4.own (by simp [HK.out]) k y (get_last _ _ _ HK.out)
        have yf1 := yf (k * 2 + 1)
        have S5 := S4.set k HK.out rfl (y.len - 1)
        have HS := Lib.hid S5
        have hB5 : Kp base gb w ((w3.setCell ⟨gb, 0, none⟩ (.slice (some ⟨g, 0, none⟩) (k + 1) cap)).setCell ⟨g, k * 2 + 1, none⟩ (.int .i64 (y.len - 1))) := (hB3.setgb).set hgb
        have HB5 := Lib.hid hB5
        clear S3 S4 S5 hB5 yf hB3 hB
        go_wp2_with fail
        go_roundw
        case rel => exact ⟨k + 1, L1, ⟨y.adr, y.len - 1⟩, g, cap, by first | rfl | go_num, by omega, by omega, ⟨by rw [HK.out], HS.out, HM.out⟩, HB5.out⟩
        case measure => first | (simp [intOf]; done) | (simp [intOf]; omega)
      · have hcg := fun n os => HA false ⟨fun h => by simp at h, fun h => absurd h hh⟩ (grow (wr.drewN n) os)
        have HI := Lib.hid (H.out.M.done (fun L0' y' e => by
          obtain ⟨_, e2⟩ := List.append_inj' e rfl
          have e3 : y = y' := by simpa using e2
          rw [← e3]; exact hh))
        clear HA hh
        go_wp2_with fail
        refine wp_region_quiet_grown (by assumption) (by kernel_rfl) ?_
        repeat (first | go_big_quiet_skip | quiet_step (refine Calls.grown_of (hcg _ _)))
        refine wpQuiet_nil ?_
        intro _ hw'
        obtain ⟨⟨nq, osq⟩, hw''⟩ := hw'
        subst hw''
        go_wp2_with fail
        go_end0
        exact ⟨rfl, _, _, HG.out _ _, HI.out, hB.gr hBs (Gr.drewN _ _ _)⟩
end Go.Proofs.Ytapaglapngbbpaa.Cidr
