/- Contracts of the document's In, few and Fewest of prefixes. No statement is proved here. -/
import Derived.Test.YtfkfffcbhjmekaaDoorCidrMany
import Derived.Test.YtfkfffcbhjmekaaDoorCidrRef1
import Derived.Test.YtfkfffcbhjmekaaDoorFewLen
namespace Go.Proofs.YtfkfffcbhjmekaaDoor.Cidr
open Go.ChangeShapes Go.WideShapes Go.ChangeAt Go.RowKit Go.Sort Go.Proofs.YtfkfffcbhjmekaaDoor.Kit Go.Proofs.YtfkfffcbhjmekaaDoor.App Go.Proofs.YtfkfffcbhjmekaaDoor.Cells Go.Proofs.YtfkfffcbhjmekaaDoor.CidrMath
set_option linter.unusedVariables false
set_option maxRecDepth 20000

theorem power_any (k : Nat) (hk : k ≤ 16) (w : World) (z : Int) (hz : z = (k : Int)) (R : Nat) (hR : R = 2 ^ k) : Calls Tryd.prog 13 #[.int .i64 z] w fun e w' => e = .returned (.int .i64 R) ∧ w' = w := by
  subst hz
  exact (rpower k (k : Int) rfl (by omega) w R hR).mono fun e w' ⟨h1, h2⟩ => ⟨h1, h2.symm⟩
set_option maxHeartbeats 1000000 in
theorem rIn_any (x : Pfx) (hx : CidrMath.Good x) (y : Int) (hy : 0 ≤ y ∧ y ≤ 65535) (w : World) (R : Bool) (hR : R = true ↔ x.adr ≤ y ∧ y < x.adr + siz x) :
    Calls Tryd.prog 9 #[.agg #[.int .i64 x.adr, .int .i64 x.len], .int .i64 y] w fun e w' => e = .returned (.bool R) ∧ ∃ q os', w' = grow (w.drewN q) os' := by
  obtain ⟨d, j, hj, hxb, hxb2⟩ := good_mem hx
  have hl : x.len = 16 - (j : Int) := by rw [hxb]; rfl
  have h0 : 0 ≤ x.adr ∧ x.adr ≤ 65535 := by
    have : x.adr = ((d * 2 ^ j : Nat) : Int) := by rw [hxb]; rfl
    have := pow_pos' j
    omega
  have hzz : siz x = 2 ^ j := by rw [hxb]; exact siz_blk _ j
  rw [hzz] at hR
  obtain ⟨a, l⟩ := x
  simp only at hl h0 hR ⊢
  obtain ⟨z, hz⟩ : ∃ z, 2 ^ j = z := ⟨_, rfl⟩
  have hz2 : z ≤ 65536 := by rw [← hz]; exact Nat.le_trans (Nat.pow_le_pow_right (by omega) hj) (by omega)
  have PW := Lib.hid (fun W => (power_any j hj W (16 - l) (by omega) z hz.symm).mono (R' := fun e w' => e = .returned (.int .i64 z) ∧ ∃ q os', w' = grow (W.drewN q) os') fun e w' ⟨h1, h2⟩ => ⟨h1, 0, #[], by rw [grow_empty, h2]; rfl⟩)
  have hwk : IntKind.i64.wrap (16 - l) = 16 - l := by rw [IntKind.wrap_i64]; omega
  rw [hz] at hR
  have hws : IntKind.i64.wrap (a + (z : Int)) = a + (z : Int) := by rw [IntKind.wrap_i64]; omega
  have B0 := Box.new w ⟨a, l⟩ 23
  simp only at B0
  have g0 := fun n os => (Box.grown B0 n os).1
  have g1 := fun n os => (Box.grown B0 n os).2
  simp only at g0 g1
  have hcg := fun n os => PW.out (grow ((w.alloc (.cells #[.int .i64 a, .int .i64 l] 23)).drewN n) os)
  have hmix := mixed
  clear B0 hx hxb hxb2 hzz hz hl PW
  by_cases h1 : a ≤ y
  · have t1 : decide (y ≥ a) = true := decide_eq_true h1
    have t1' : decide (a ≤ y) = true := decide_eq_true h1
    have t2 : decide (y < a + (z : Int)) = R := by
      cases R with
      | true => exact decide_eq_true (hR.1 rfl).2
      | false => exact decide_eq_false (fun h => by have := hR.2 ⟨h1, h⟩; simp at this)
    clear hR
    go_enter Tryd.func9, Tryd.ntmps9
    go_wp2_with fail
    refine wp_region_quiet_grown (by assumption) (by kernel_rfl) ?_
    repeat (first | go_big_quiet_step (refine Calls.grown_of (hcg _ _)) | quiet_step (refine Calls.grown_of (hcg _ _)))
    refine wpQuiet_nil ?_
    intro _ hw'
    obtain ⟨⟨nq, osq⟩, hw''⟩ := hw'
    subst hw''
    go_wp2_with fail
    go_ret
    exact ⟨rfl, _, _, by rw [alloc_eq_grow, drewN_grow_grow]⟩
  · have t1 : decide (y ≥ a) = false := decide_eq_false h1
    have t1' : decide (a ≤ y) = false := decide_eq_false h1
    have hc : R = false := by
      cases R
      · rfl
      · have := hR.1 rfl; omega
    clear hR
    subst hc
    go_enter Tryd.func9, Tryd.ntmps9
    go_wp2_with fail
    refine wp_region_quiet_grown (by assumption) (by kernel_rfl) ?_
    repeat (first | go_big_quiet_step (refine Calls.grown_of (hcg _ _)) | quiet_step (refine Calls.grown_of (hcg _ _)))
    refine wpQuiet_nil ?_
    intro _ hw'
    obtain ⟨⟨nq, osq⟩, hw''⟩ := hw'
    subst hw''
    go_wp2_with fail
    go_ret
    exact ⟨rfl, _, _, by rw [alloc_eq_grow, drewN_grow_grow]⟩

theorem has_int (x : Pfx) (a : Nat) : has x a ↔ x.adr ≤ (a : Int) ∧ (a : Int) < x.adr + siz x := Iff.rfl
set_option maxHeartbeats 8000000 in
theorem rfew_any (p : Option Addr) (cap n : Nat) (l : List Pfx) (hn : n = l.length) (hn32 : n ≤ 32) (hg : ∀ x ∈ l, CidrMath.Good x) : ∀ (k : Nat) (hk : k ≤ 16) (c A : Nat) (hA : A = c * 2 ^ k) (hb : A + 2 ^ k ≤ 65536) (w : World) (hc : CI lay w p cap l) (L : Int) (hL : L = 16 - (k : Int)),
    Calls Tryd.prog 20 #[.slice p n cap, .agg #[.int .i64 (A : Int), .int .i64 L]] w fun e w' => ∃ v, e = .returned v ∧ OC lay 23 w' w.heap.size v (few l A k) ∧ Below w.heap.size w w'
  | k, hk, c, A, hA, hb, w, hc, L, hL => by
    obtain ⟨z, hz⟩ : ∃ z, 2 ^ k = z := ⟨_, rfl⟩
    have hz1 : 0 < z := by rw [← hz]; exact pow_pos' k
    rw [hz] at hb
    have hgp : CidrMath.Good ⟨(A : Int), L⟩ := ⟨c, k, hk, by rw [hL, hA]; rfl, by rw [← hA]; omega⟩
    have hsz : siz ⟨(A : Int), L⟩ = z := by rw [hL, ← hz]; exact siz_blk A k
    have PW := Lib.hid (fun W => power_any k hk W (16 - L) (by omega) z hz.symm)
    have hwk : IntKind.i64.wrap (16 - L) = 16 - L := by rw [IntKind.wrap_i64]; omega
    have I1 := Lib.hid (fun x (hx : x ∈ l) R hR W => rIn_any x (hg x hx) (A : Int) ⟨by omega, by omega⟩ W R hR)
    have I2 := Lib.hid (fun (y : Int) hy R hR W => rIn_any ⟨(A : Int), L⟩ hgp y hy W R hR)
    rw [hsz] at I2
    simp only at I2
    have hL17 : 0 ≤ L ∧ L ≤ 16 := by omega
    -- what stands behind the loop
    have hmix := mixed
    have HN := Lib.hid hn
    have HG := Lib.hid hg
    have HCI := Lib.hid hc
    have BP := Box.new w ⟨(A : Int), L⟩ 23
    have hpw : w.heap.size < (w.alloc (.cells #[.int .i64 (A : Int), .int .i64 L] 23)).heap.size := by simp
    have HZ := Lib.hid hz
    have HA := Lib.hid hA
    have HL := Lib.hid hL
    have IHk : ∀ k', k = k' + 1 → Hid (∀ (c' A' : Nat) (hA' : A' = c' * 2 ^ k') (hb' : A' + 2 ^ k' ≤ 65536) (W : World) (hc : CI lay W p cap l) (L' : Int) (hL' : L' = 16 - (k' : Int)),
        Calls Tryd.prog 20 #[.slice p n cap, .agg #[.int .i64 (A' : Int), .int .i64 L']] W fun e w' => ∃ v, e = .returned v ∧ OC lay 23 w' W.heap.size v (few l A' k') ∧ Below W.heap.size W w') := fun k' e c' A' hA' hb' W hc' L' hL' =>
      rfew_any p cap n l hn hn32 hg k' (by omega) c' A' hA' hb' W hc' L' hL'
    clear hz hA hL hgp hsz hg hc hn
    go_enter Tryd.func20, Tryd.ntmps20
    go_wp2_with fail
    refine (PW.out _).mono ?_; rintro e w1 ⟨rfl, rfl⟩
    go_wp2_with fail
    go_loopw [6, 7] (fun sv iv wr => ∃ (j : Nat) (sb : Bool), sv = .bool sb ∧ iv = .int .i64 j ∧ j ≤ n ∧ Hid ((∀ x ∈ l.take j, ¬ (has x A ∧ x.len ≤ L)) ∧ (sb = true ↔ ∃ x ∈ l.take j, 0 ≤ x.adr ∧ has (blk A k) x.adr.toNat)) ∧ Below (w.heap.size + 1) (w.alloc (.cells #[.int .i64 (A : Int), .int .i64 L] 23)) wr) (fun _ i _ => n - (intOf i).toNat)
    case atStart => exact ⟨0, false, rfl, by rfl, Nat.zero_le _, ⟨fun x hx => by simp at hx, fun h => by simp at h, fun ⟨x, hx, _⟩ => by simp at hx⟩, Below.refl _ _⟩
    case round =>
      obtain ⟨j, sb, rfl, rfl, hj, H, hB⟩ := hrel
      have hsB := hB.size
      have hsB' : w.heap.size + 1 ≤ wr.heap.size := by simpa using hsB
      have BPr := BP.below hB (by omega)
      by_cases hlt : j < n
      · have hjl : j < l.length := by rw [← HN.out]; exact hlt
        obtain ⟨b, off, rfl, hbw, hcell⟩ := HCI.out.2.2 (by omega)
        obtain ⟨x, hx⟩ : ∃ x, l[j]? = some x := ⟨_, List.getElem?_eq_getElem hjl⟩
        have hbk : wr.heap[b]? = w.heap[b]? := (hB.block b (by omega)).trans ((balloc (brefl w) _).block b hbw)
        have x0 : wr.cell? ⟨b, off + j * 2, none⟩ = some (.int .i64 x.adr) := (World.cell?_of_block (w := w) (a := ⟨b, off + j * 2, none⟩) hbk).trans (hcell j x hx 0 _ rfl)
        have x1 : wr.cell? ⟨b, off + j * 2 + 1, none⟩ = some (.int .i64 x.len) := (World.cell?_of_block (w := w) (a := ⟨b, off + j * 2 + 1, none⟩) hbk).trans (hcell j x hx 1 _ rfl)
        have hbr : b < wr.heap.size := by omega
        have gx0 := fun n os => cell_grown (a := ⟨b, off + j * 2, none⟩) hbr x0 n os
        have gx1 := fun n os => cell_grown (a := ⟨b, off + j * 2 + 1, none⟩) hbr x1 n os
        have gp0 := fun n os => (Box.grown BPr n os).1
        have gp1 := fun n os => (Box.grown BPr n os).2
        have hmx := List.mem_of_getElem? hx
        have i0 : (0 : Int) ≤ (j : Int) := by omega
        have i1 : (j : Int) < (n : Int) := by omega
        have HT := Lib.hid (take_one hx)
        have hya : 0 ≤ x.adr ∧ x.adr ≤ 65535 := by
          obtain ⟨yb, hyb, hyh⟩ := good_adr (HG.out x hmx)
          have := good_lt (HG.out x hmx) hyh
          omega
        have J1 := fun R hR W => I1.out x hmx R hR W
        have J2 := fun R hR W => I2.out x.adr hya R hR W
        have HX := Lib.hid hmx
        clear hcell hx hbk hjl hmx x0 x1
        by_cases h1 : has x A
        · by_cases h2 : x.len ≤ L
          · have hres := few_hit (l := l) (a := A) (k := k) ⟨x, HX.out, h1, by rw [← HL.out]; exact h2⟩
            have hcg := fun n os => J1 true ⟨fun _ => (has_int x A).1 h1, fun _ => rfl⟩ (grow (wr.drewN n) os)
            have t1 : decide (x.len ≤ L) = true := decide_eq_true h2
            have HR := Lib.hid hres
            have hGR := fun (n : Nat) (os : Array Obj) => BPr.below (Gr.drewN wr n os).below BPr.1
            have HL2 := Lib.hid (show blk A k = ⟨(A : Int), L⟩ from by rw [HL.out]; rfl)
            clear h1 h2 J1 J2 hres
            go_wp2_with fail
            refine wp_region_quiet_grown (by assumption) (by kernel_rfl) ?_
            repeat (first | go_big_quiet_step (refine Calls.grown_of (hcg _ _)) | quiet_step (refine Calls.grown_of (hcg _ _)))
            refine wpQuiet_nil ?_
            intro _ hw'
            obtain ⟨⟨nq, osq⟩, hw''⟩ := hw'
            subst hw''
            have B9 := hGR nq osq
            have hB9 : Below (w.heap.size + 1) (w.alloc (.cells #[.int .i64 (A : Int), .int .i64 L] 23)) (grow (wr.drewN nq) osq) := below_gr hB hsB' (Gr.drewN _ _ _)
            clear hGR gx0 gx1 gp0 gp1 hcg hB
            generalize grow (wr.drewN nq) osq = w9 at B9 hB9 ⊢
            obtain ⟨hb9, p0, p1⟩ := B9
            go_wp2_with fail
            go_ret
            refine ⟨_, rfl, ?_, bcall (balloc (brefl w) _) (balloc (hB9.mono (by simp)) _)⟩
            rw [HR.out, HL2.out]
            exact (oc_lit lay 23 w9 [⟨(A : Int), L⟩] (by simp)).mono (by have := hB9.size; simp at this; omega)
          · have hcg := fun n os => J1 true ⟨fun _ => (has_int x A).1 h1, fun _ => rfl⟩ (grow (wr.drewN n) os)
            have t1 : decide (x.len ≤ L) = false := decide_eq_false h2
            have hno : ¬ (has x A ∧ x.len ≤ L) := fun h => h2 h.2
            clear h1 h2 J1
            have HTK : Hid (∀ x ∈ l.take (j + 1), ¬ (has x A ∧ x.len ≤ L)) := fun y hy => by
              rw [HT.out, List.mem_append, List.mem_singleton] at hy
              rcases hy with hy | rfl
              · exact H.out.1 y hy
              · exact hno
            have hGR := fun (n : Nat) (os : Array Obj) => BPr.below (Gr.drewN wr n os).below BPr.1
            have hXR := fun (n : Nat) (os : Array Obj) => And.intro (gx0 n os) (gx1 n os)
            clear hno
            go_wp2_with fail
            refine wp_region_quiet_grown (by assumption) (by kernel_rfl) ?_
            repeat (first | go_big_quiet_step (refine Calls.grown_of (hcg _ _)) | quiet_step (refine Calls.grown_of (hcg _ _)))
            refine wpQuiet_nil ?_
            intro _ hw'
            obtain ⟨⟨nq, osq⟩, hw''⟩ := hw'
            subst hw''
            have B9 := hGR nq osq
            have X9 := hXR nq osq
            have hB9 : Below (w.heap.size + 1) (w.alloc (.cells #[.int .i64 (A : Int), .int .i64 L] 23)) (grow (wr.drewN nq) osq) := below_gr hB hsB' (Gr.drewN _ _ _)
            have hbr9 : b < (grow (wr.drewN nq) osq).heap.size := Nat.lt_of_lt_of_le hbr (Gr.drewN wr nq osq).below.size
            clear hGR hXR gx0 gx1 gp0 gp1 hcg hB
            generalize grow (wr.drewN nq) osq = w9 at B9 X9 hB9 hbr9 ⊢
            have hs9 : w.heap.size + 1 ≤ w9.heap.size := by have := hB9.size; simpa using this
            have gx0 := fun n os => cell_grown (a := ⟨b, off + j * 2, none⟩) hbr9 X9.1 n os
            have gx1 := fun n os => cell_grown (a := ⟨b, off + j * 2 + 1, none⟩) hbr9 X9.2 n os
            have gp0 := fun n os => (Box.grown B9 n os).1
            have gp1 := fun n os => (Box.grown B9 n os).2
            simp only at gp0 gp1
            cases sb with
            | true =>
              have HS : Hid (true = true ↔ ∃ x ∈ l.take (j + 1), 0 ≤ x.adr ∧ has (blk A k) x.adr.toNat) := ⟨fun _ => by
                obtain ⟨y, hy, h⟩ := H.out.2.1 rfl
                exact ⟨y, by rw [HT.out]; exact List.mem_append_left _ hy, h⟩, fun _ => rfl⟩
              have HSs := HS.out.1 rfl
              have HS2 := Lib.hid HSs
              clear J2 HS HSs
              go_wp2_with fail
              refine wp_region_quiet_grown (by assumption) (by kernel_rfl) ?_
              repeat (first | go_big_quiet_step (fail) | quiet_step (fail))
              refine wpQuiet_nil ?_
              intro _ hw'
              obtain ⟨⟨nq, osq⟩, hw''⟩ := hw'
              subst hw''
              go_wp2_with fail
              go_roundw
              case rel => exact ⟨j + 1, true, by first | rfl | go_num, by first | rfl | go_num, by omega, ⟨HTK.out, fun _ => HS2.out, fun _ => rfl⟩, below_gr hB9 hs9 (Gr.drewN _ _ _)⟩
              case measure => simp [intOf]; omega
            | false =>
              obtain ⟨R, hR⟩ : ∃ R : Bool, (R = true ↔ (A : Int) ≤ x.adr ∧ x.adr < (A : Int) + (z : Int)) := ⟨decide _, decide_eq_true_iff⟩
              have hcg := fun n os => J2 R hR (grow (w9.drewN n) os)
              have HS : Hid (R = true ↔ ∃ x ∈ l.take (j + 1), 0 ≤ x.adr ∧ has (blk A k) x.adr.toNat) := by
                rw [hR]
                constructor
                · intro h
                  refine ⟨x, by rw [HT.out]; simp, hya.1, ?_⟩
                  rw [has_blk, HZ.out]; omega
                · rintro ⟨y, hy, h0, h1⟩
                  rw [HT.out, List.mem_append, List.mem_singleton] at hy
                  rcases hy with hy | rfl
                  · have := H.out.2.2 ⟨y, hy, h0, h1⟩; simp at this
                  · rw [has_blk, HZ.out] at h1; omega
              clear J2 hR
              go_wp2_with fail
              refine wp_region_quiet_grown (by assumption) (by kernel_rfl) ?_
              repeat (first | go_big_quiet_step (refine Calls.grown_of (hcg _ _)) | quiet_step (refine Calls.grown_of (hcg _ _)))
              refine wpQuiet_nil ?_
              intro _ hw'
              obtain ⟨⟨nq, osq⟩, hw''⟩ := hw'
              subst hw''
              go_wp2_with fail
              go_roundw
              case rel => exact ⟨j + 1, R, by first | rfl | go_num, by first | rfl | go_num, by omega, ⟨HTK.out, HS.out⟩, below_gr hB9 hs9 (Gr.drewN _ _ _)⟩
              case measure => simp [intOf]; omega
        · have hcg := fun n os => J1 false ⟨fun h => by simp at h, fun h => absurd ((has_int x A).2 h) h1⟩ (grow (wr.drewN n) os)
          have hno : ¬ (has x A ∧ x.len ≤ L) := fun h => h1 h.1
          clear h1 J1
          have HTK : Hid (∀ x ∈ l.take (j + 1), ¬ (has x A ∧ x.len ≤ L)) := fun y hy => by
            rw [HT.out, List.mem_append, List.mem_singleton] at hy
            rcases hy with hy | rfl
            · exact H.out.1 y hy
            · exact hno
          have hGR := fun (n : Nat) (os : Array Obj) => BPr.below (Gr.drewN wr n os).below BPr.1
          have hXR := fun (n : Nat) (os : Array Obj) => And.intro (gx0 n os) (gx1 n os)
          clear hno
          go_wp2_with fail
          refine wp_region_quiet_grown (by assumption) (by kernel_rfl) ?_
          repeat (first | go_big_quiet_step (refine Calls.grown_of (hcg _ _)) | quiet_step (refine Calls.grown_of (hcg _ _)))
          refine wpQuiet_nil ?_
          intro _ hw'
          obtain ⟨⟨nq, osq⟩, hw''⟩ := hw'
          subst hw''
          have B9 := hGR nq osq
          have X9 := hXR nq osq
          have hB9 : Below (w.heap.size + 1) (w.alloc (.cells #[.int .i64 (A : Int), .int .i64 L] 23)) (grow (wr.drewN nq) osq) := below_gr hB hsB' (Gr.drewN _ _ _)
          have hbr9 : b < (grow (wr.drewN nq) osq).heap.size := Nat.lt_of_lt_of_le hbr (Gr.drewN wr nq osq).below.size
          clear hGR hXR gx0 gx1 gp0 gp1 hcg hB
          generalize grow (wr.drewN nq) osq = w9 at B9 X9 hB9 hbr9 ⊢
          have hs9 : w.heap.size + 1 ≤ w9.heap.size := by have := hB9.size; simpa using this
          have gx0 := fun n os => cell_grown (a := ⟨b, off + j * 2, none⟩) hbr9 X9.1 n os
          have gx1 := fun n os => cell_grown (a := ⟨b, off + j * 2 + 1, none⟩) hbr9 X9.2 n os
          have gp0 := fun n os => (Box.grown B9 n os).1
          have gp1 := fun n os => (Box.grown B9 n os).2
          simp only at gp0 gp1
          cases sb with
          | true =>
            have HS : Hid (true = true ↔ ∃ x ∈ l.take (j + 1), 0 ≤ x.adr ∧ has (blk A k) x.adr.toNat) := ⟨fun _ => by
              obtain ⟨y, hy, h⟩ := H.out.2.1 rfl
              exact ⟨y, by rw [HT.out]; exact List.mem_append_left _ hy, h⟩, fun _ => rfl⟩
            have HSs := HS.out.1 rfl
            have HS2 := Lib.hid HSs
            clear J2 HS HSs
            go_wp2_with fail
            refine wp_region_quiet_grown (by assumption) (by kernel_rfl) ?_
            repeat (first | go_big_quiet_step (fail) | quiet_step (fail))
            refine wpQuiet_nil ?_
            intro _ hw'
            obtain ⟨⟨nq, osq⟩, hw''⟩ := hw'
            subst hw''
            go_wp2_with fail
            go_roundw
            case rel => exact ⟨j + 1, true, by first | rfl | go_num, by first | rfl | go_num, by omega, ⟨HTK.out, fun _ => HS2.out, fun _ => rfl⟩, below_gr hB9 hs9 (Gr.drewN _ _ _)⟩
            case measure => simp [intOf]; omega
          | false =>
            obtain ⟨R, hR⟩ : ∃ R : Bool, (R = true ↔ (A : Int) ≤ x.adr ∧ x.adr < (A : Int) + (z : Int)) := ⟨decide _, decide_eq_true_iff⟩
            have hcg := fun n os => J2 R hR (grow (w9.drewN n) os)
            have HS : Hid (R = true ↔ ∃ x ∈ l.take (j + 1), 0 ≤ x.adr ∧ has (blk A k) x.adr.toNat) := by
              rw [hR]
              constructor
              · intro h
                refine ⟨x, by rw [HT.out]; simp, hya.1, ?_⟩
                rw [has_blk, HZ.out]; omega
              · rintro ⟨y, hy, h0, h1⟩
                rw [HT.out, List.mem_append, List.mem_singleton] at hy
                rcases hy with hy | rfl
                · have := H.out.2.2 ⟨y, hy, h0, h1⟩; simp at this
                · rw [has_blk, HZ.out] at h1; omega
            clear J2 hR
            go_wp2_with fail
            refine wp_region_quiet_grown (by assumption) (by kernel_rfl) ?_
            repeat (first | go_big_quiet_step (refine Calls.grown_of (hcg _ _)) | quiet_step (refine Calls.grown_of (hcg _ _)))
            refine wpQuiet_nil ?_
            intro _ hw'
            obtain ⟨⟨nq, osq⟩, hw''⟩ := hw'
            subst hw''
            go_wp2_with fail
            go_roundw
            case rel => exact ⟨j + 1, R, by first | rfl | go_num, by first | rfl | go_num, by omega, ⟨HTK.out, HS.out⟩, below_gr hB9 hs9 (Gr.drewN _ _ _)⟩
            case measure => simp [intOf]; omega
      · obtain rfl : j = n := by omega
        have HE : Hid ((∀ x ∈ l, ¬ (has x A ∧ x.len ≤ L)) ∧ (sb = true ↔ ∃ x ∈ l, 0 ≤ x.adr ∧ has (blk A k) x.adr.toNat)) := by
          have h1 := H.out
          rw [List.take_of_length_le (by rw [← HN.out]; exact Nat.le_refl _)] at h1
          exact h1
        clear H
        cases sb with
        | false =>
          have HR := Lib.hid (few_none (l := l) (a := A) (k := k) (fun ⟨x, hx, h1, h2⟩ => HE.out.1 x hx ⟨h1, by rw [HL.out]; exact h2⟩) (fun h => by have := HE.out.2.2 h; simp at this))
          have hBE := Lib.hid (bcall (balloc (brefl w) _) (hB.mono (by simp)))
          go_wp2_with fail
          go_ret
          exact ⟨_, rfl, by rw [HR.out]; exact OC.nil _ _ _ _, hBE.out⟩
        | true =>
          have hsome := HE.out.2.1 rfl
          cases k with
          | zero =>
            obtain ⟨x, hx, h1, h2⟩ := few_leaf HG.out hsome
            exact absurd ⟨h1, by rw [HL.out]; exact h2⟩ (HE.out.1 x hx)
          | succ k =>
            have IH := IHk k rfl
            have hpar := few_parts (l := l) (a := A) (k := k) (fun ⟨x, hx, h1, h2⟩ => HE.out.1 x hx ⟨h1, by rw [HL.out]; exact h2⟩) hsome
            obtain ⟨y, hy⟩ : ∃ y, 2 ^ k = y := ⟨_, rfl⟩
            have hzy : z = y + y := by rw [← HZ.out, two_pow, hy]
            obtain ⟨e1, e2⟩ := CidrMath.half_start c k
            rw [← HA.out] at e1 e2
            have e2 : A + y = (2 * c + 1) * 2 ^ k := by rw [← hy]; exact e2
            have IA := Lib.hid (fun W (hW : Below w.heap.size w W) => IH.out (2 * c) A e1 (by rw [hy]; omega) W (HCI.out.below hW) (L + 1) (by rw [HL.out]; omega))
            have IB := Lib.hid (fun W (hW : Below w.heap.size w W) => IH.out (2 * c + 1) (A + y) e2 (by rw [hy]; omega) W (HCI.out.below hW) (L + 1) (by rw [HL.out]; omega))
            have WA := few_whole l (2 * c) k
            have WB := few_whole l (2 * c + 1) k
            rw [← e1] at WA
            rw [← e2] at WB
            rw [hy] at hpar
            have lA := few_le l k A
            have lB := few_le l k (A + y)
            rw [hy] at lA lB
            have heL : (16 : Int) - (k : Int) = L + 1 := by rw [HL.out]; omega
            have hfp : blk A (k + 1) = ⟨(A : Int), L⟩ := by rw [HL.out]; rfl
            rw [hfp] at hpar
            rw [heL] at WA WB
            obtain ⟨fr, hfr0⟩ : ∃ fr, few l A (k + 1) = fr := ⟨_, rfl⟩
            rw [hfr0] at hpar
            have HF := Lib.hid hfr0
            clear hfr0
            obtain ⟨fa, hfa⟩ : ∃ fa, few l A k = fa := ⟨_, rfl⟩
            obtain ⟨fb, hfb⟩ : ∃ fb, few l (A + y) k = fb := ⟨_, rfl⟩
            rw [hfa] at IA WA hpar lA
            rw [hfb] at IB WB hpar lB
            have HP := Lib.hid hpar
            have HWA := Lib.hid WA
            have HWB := Lib.hid WB
            have q1 : (z : Int) / 2 = (y : Int) := by rw [hzy]; omega
            have q2 : (z : Int).tdiv 2 = (y : Int) := by rw [Int.tdiv_eq_ediv_of_nonneg (by omega)]; exact q1
            have q0 : z / 2 = y := by omega
            have q3 : IntKind.i64.wrap (y : Int) = (y : Int) := by rw [IntKind.wrap_i64]; omega
            have q4 : IntKind.i64.wrap ((A : Int) + (y : Int)) = (A : Int) + (y : Int) := by rw [IntKind.wrap_i64]; omega
            have q5 : IntKind.i64.wrap (L + 1) = L + 1 := by rw [IntKind.wrap_i64]; omega
            obtain ⟨na, hna⟩ : ∃ na, fa.length = na := ⟨_, rfl⟩
            obtain ⟨nb, hnb⟩ : ∃ nb, fb.length = nb := ⟨_, rfl⟩
            rw [hna] at lA
            rw [hnb] at lB
            have HNA := Lib.hid hna
            have HNB := Lib.hid hnb
            have hBw : Below w.heap.size w wr := bcall (balloc (brefl w) _) (hB.mono (by simp))
            obtain ⟨hpr, p0, p1⟩ := BPr
            clear hsome hpar WA WB hy e1 e2 hfa hfb hna hnb heL hfp IHk IH HE hlt BP hzy
            go_wp2_with fail
            refine (IA.out _ hBw).mono ?_; rintro e w2 ⟨va, rfl, howna, hb2⟩
            have hB2 := bcall hBw hb2
            have p0' := (hb2.cell (p := ⟨w.heap.size, 0, none⟩) hpr).trans p0
            have p1' := (hb2.cell (p := ⟨w.heap.size, 1, none⟩) hpr).trans p1
            have hpr2 := Nat.lt_of_lt_of_le hpr hb2.size
            clear p0 p1 IA
            go_wp2_with fail
            refine (IB.out _ hB2).mono ?_; rintro e w3 ⟨vb, rfl, hownb, hb3⟩
            have hB3 := bcall hB2 hb3
            have p0 := (hb3.cell (p := ⟨w.heap.size, 0, none⟩) hpr2).trans p0'
            have p1 := (hb3.cell (p := ⟨w.heap.size, 1, none⟩) hpr2).trans p1'
            have hpr3 := Nat.lt_of_lt_of_le hpr2 hb3.size
            have gp0 := fun n os => cell_grown (a := ⟨w.heap.size, 0, none⟩) hpr3 p0 n os
            have gp1 := fun n os => cell_grown (a := ⟨w.heap.size, 1, none⟩) hpr3 p1 n os
            have howna3 := (howna.below hb3).mono hBw.size
            have hownb3 := hownb.mono (show w.heap.size ≤ w2.heap.size from hB2.size)
            clear p0' p1' p0 p1 IB howna hownb hb2 hb3 hB2 hBw
            obtain ⟨qa, ca, rfl, hCa⟩ := howna3.form
            obtain ⟨qb, cb, rfl, hCb⟩ := hownb3.form
            rw [HNA.out] at howna3 ⊢
            rw [HNB.out] at hownb3 ⊢
            have HOA := Lib.hid howna3
            have HCB := Lib.hid hCb
            have HCA := Lib.hid hCa
            have hs3 := hB3.size
            clear howna3 hownb3 hCa hCb
            have app : fr = fa ++ fb → Hid (fr = fa ++ fb) := fun h => h
            by_cases ha1 : na = 1
            · subst ha1
              obtain ⟨ba, oa, rfl, hba, hca⟩ := HCA.out.2.2 (by rw [HNA.out]; omega)
              obtain ⟨xa, hxa⟩ : ∃ xa, fa[0]? = some xa := ⟨_, List.getElem?_eq_getElem (by rw [HNA.out]; omega)⟩
              have ga1 := fun n os => cell_grown (a := ⟨ba, oa + 0 * 2 + 1, none⟩) hba (hca 0 xa hxa 1 _ rfl) n os
              have ga0 := fun n os => cell_grown (a := ⟨ba, oa + 0 * 2, none⟩) hba (hca 0 xa hxa 0 _ rfl) n os
              simp only [Nat.zero_mul, Nat.add_zero] at ga0 ga1
              by_cases hb1 : nb = 1
              · subst hb1
                obtain ⟨bb, ob, rfl, hbb, hcb⟩ := HCB.out.2.2 (by rw [HNB.out]; omega)
                obtain ⟨xb, hxb⟩ : ∃ xb, fb[0]? = some xb := ⟨_, List.getElem?_eq_getElem (by rw [HNB.out]; omega)⟩
                have gb1 := fun n os => cell_grown (a := ⟨bb, ob + 0 * 2 + 1, none⟩) hbb (hcb 0 xb hxb 1 _ rfl) n os
                have gb0 := fun n os => cell_grown (a := ⟨bb, ob + 0 * 2, none⟩) hbb (hcb 0 xb hxb 0 _ rfl) n os
                simp only [Nat.zero_mul, Nat.add_zero] at gb0 gb1
                by_cases hla : xa.len = L + 1
                · have ta : (xa.len == L + 1) = true := by simp [hla]
                  have ta' : decide (xa.len = L + 1) = true := decide_eq_true hla
                  by_cases hlb : xb.len = L + 1
                  · have tb : (xb.len == L + 1) = true := by simp [hlb]
                    have tb' : decide (xb.len = L + 1) = true := decide_eq_true hlb
                    have hfr : fr = [⟨(A : Int), L⟩] := by
                      rw [HP.out, if_pos ⟨HWA.out.1 ⟨HNA.out, fun y hy => by rw [hxa] at hy; rw [← Option.some.inj hy]; exact hla⟩, HWB.out.1 ⟨HNB.out, fun y hy => by rw [hxb] at hy; rw [← Option.some.inj hy]; exact hlb⟩⟩]
                    have HR := Lib.hid hfr
                    have hGR := fun (n : Nat) (os : Array Obj) => (show Box (grow (w3.drewN n) os) w.heap.size ⟨(A : Int), L⟩ from ⟨Nat.lt_of_lt_of_le hpr3 (Gr.drewN w3 n os).below.size, gp0 n os, gp1 n os⟩)
                    clear hfr hxa hxb hca hcb app
                    go_wp2_with fail
                    refine wp_region_quiet_grown (by assumption) (by kernel_rfl) ?_
                    repeat (first | go_big_quiet_step (fail) | quiet_step (fail))
                    refine wpQuiet_nil ?_
                    intro _ hw'
                    obtain ⟨⟨nq, osq⟩, hw''⟩ := hw'
                    subst hw''
                    have B9 := hGR nq osq
                    have hB9 : Below w.heap.size w (grow (w3.drewN nq) osq) := below_gr hB3 hs3 (Gr.drewN _ _ _)
                    clear hGR ga0 ga1 gb0 gb1 gp0 gp1 hB3
                    generalize grow (w3.drewN nq) osq = w9 at B9 hB9 ⊢
                    obtain ⟨hb9, p0, p1⟩ := B9
                    go_wp2_with fail
                    go_ret
                    refine ⟨_, rfl, ?_, balloc hB9 _⟩
                    rw [HF.out, HR.out]
                    exact (oc_lit lay 23 w9 [⟨(A : Int), L⟩] (by simp)).mono hB9.size
                  · have tb : (xb.len == L + 1) = false := by simp [hlb]
                    have tb' : decide (xb.len = L + 1) = false := decide_eq_false hlb
                    have HR := app (by rw [HP.out, if_neg (fun h => hlb ((HWB.out.2 h.2).2 xb hxb))])
                    clear hxa hxb hca hcb app hla hlb
                    go_wp2_with fail
                    refine wp_region_quiet_grown (by assumption) (by kernel_rfl) ?_
                    repeat (first | go_big_quiet_step (fail) | quiet_step (fail))
                    refine wpQuiet_nil ?_
                    intro _ hw'
                    obtain ⟨⟨nq, osq⟩, hw''⟩ := hw'
                    subst hw''
                    have hB9 : Below w.heap.size w (grow (w3.drewN nq) osq) := below_gr hB3 hs3 (Gr.drewN _ _ _)
                    have HO9 := Lib.hid (HOA.out.below (Gr.drewN w3 nq osq).below)
                    have HC9 := Lib.hid (HCB.out.below (Gr.drewN w3 nq osq).below)
                    have hs9 := hB9.size
                    generalize grow (w3.drewN nq) osq = w9 at hB9 HO9 HC9 hs9 ⊢
                    go_wp2_with (at_builtin
                                 refine wp_appC ty rfl (.tmp 100) (.tmp 101) rfl w.heap.size _ fa _ _ _ fb rfl HO9.out rfl HNB.out.symm HC9.out (by rw [HNA.out, HNB.out]; omega) hs9 ?_
                                 intro v8 w8 hown8 hg8 hat8
                                 have hB8 : Below w.heap.size w w8 := below_appC hB9 HO9.out hg8 hs9
                                 rw [← HR.out] at hown8
                                 have HO8 := Lib.hid hown8
                                 clear hat8 hg8 hown8)
                    go_ret
                    exact ⟨_, rfl, by rw [HF.out]; exact HO8.out, hB8⟩
                · have ta : (xa.len == L + 1) = false := by simp [hla]
                  have ta' : decide (xa.len = L + 1) = false := decide_eq_false hla
                  have HR := app (by rw [HP.out, if_neg (fun h => hla ((HWA.out.2 h.1).2 xa hxa))])
                  clear hxa hxb hca hcb app hla
                  go_wp2_with fail
                  refine wp_region_quiet_grown (by assumption) (by kernel_rfl) ?_
                  repeat (first | go_big_quiet_step (fail) | quiet_step (fail))
                  refine wpQuiet_nil ?_
                  intro _ hw'
                  obtain ⟨⟨nq, osq⟩, hw''⟩ := hw'
                  subst hw''
                  have hB9 : Below w.heap.size w (grow (w3.drewN nq) osq) := below_gr hB3 hs3 (Gr.drewN _ _ _)
                  have HO9 := Lib.hid (HOA.out.below (Gr.drewN w3 nq osq).below)
                  have HC9 := Lib.hid (HCB.out.below (Gr.drewN w3 nq osq).below)
                  have hs9 := hB9.size
                  generalize grow (w3.drewN nq) osq = w9 at hB9 HO9 HC9 hs9 ⊢
                  go_wp2_with (at_builtin
                               refine wp_appC ty rfl (.tmp 100) (.tmp 101) rfl w.heap.size _ fa _ _ _ fb rfl HO9.out rfl HNB.out.symm HC9.out (by rw [HNA.out, HNB.out]; omega) hs9 ?_
                               intro v8 w8 hown8 hg8 hat8
                               have hB8 : Below w.heap.size w w8 := below_appC hB9 HO9.out hg8 hs9
                               rw [← HR.out] at hown8
                               have HO8 := Lib.hid hown8
                               clear hat8 hg8 hown8)
                  go_ret
                  exact ⟨_, rfl, by rw [HF.out]; exact HO8.out, hB8⟩
              · have tb : ((nb : Int) == 1) = false := by simp; omega
                have tb' : decide (nb = 1) = false := decide_eq_false hb1
                have HR := app (by rw [HP.out, if_neg (fun h => hb1 (by rw [← HNB.out]; exact (HWB.out.2 h.2).1))])
                clear hxa hca app
                go_wp2_with fail
                refine wp_region_quiet_grown (by assumption) (by kernel_rfl) ?_
                repeat (first | go_big_quiet_step (fail) | quiet_step (fail))
                refine wpQuiet_nil ?_
                intro _ hw'
                obtain ⟨⟨nq, osq⟩, hw''⟩ := hw'
                subst hw''
                have hB9 : Below w.heap.size w (grow (w3.drewN nq) osq) := below_gr hB3 hs3 (Gr.drewN _ _ _)
                have HO9 := Lib.hid (HOA.out.below (Gr.drewN w3 nq osq).below)
                have HC9 := Lib.hid (HCB.out.below (Gr.drewN w3 nq osq).below)
                have hs9 := hB9.size
                generalize grow (w3.drewN nq) osq = w9 at hB9 HO9 HC9 hs9 ⊢
                go_wp2_with (at_builtin
                             refine wp_appC ty rfl (.tmp 100) (.tmp 101) rfl w.heap.size _ fa _ _ _ fb rfl HO9.out rfl HNB.out.symm HC9.out (by rw [HNA.out, HNB.out]; omega) hs9 ?_
                             intro v8 w8 hown8 hg8 hat8
                             have hB8 : Below w.heap.size w w8 := below_appC hB9 HO9.out hg8 hs9
                             rw [← HR.out] at hown8
                             have HO8 := Lib.hid hown8
                             clear hat8 hg8 hown8)
                go_ret
                exact ⟨_, rfl, by rw [HF.out]; exact HO8.out, hB8⟩
            · have ta : ((na : Int) == 1) = false := by simp; omega
              have ta' : decide (na = 1) = false := decide_eq_false ha1
              have HR := app (by rw [HP.out, if_neg (fun h => ha1 (by rw [← HNA.out]; exact (HWA.out.2 h.1).1))])
              clear app
              go_wp2_with fail
              refine wp_region_quiet_grown (by assumption) (by kernel_rfl) ?_
              repeat (first | go_big_quiet_step (fail) | quiet_step (fail))
              refine wpQuiet_nil ?_
              intro _ hw'
              obtain ⟨⟨nq, osq⟩, hw''⟩ := hw'
              subst hw''
              have hB9 : Below w.heap.size w (grow (w3.drewN nq) osq) := below_gr hB3 hs3 (Gr.drewN _ _ _)
              have HO9 := Lib.hid (HOA.out.below (Gr.drewN w3 nq osq).below)
              have HC9 := Lib.hid (HCB.out.below (Gr.drewN w3 nq osq).below)
              have hs9 := hB9.size
              generalize grow (w3.drewN nq) osq = w9 at hB9 HO9 HC9 hs9 ⊢
              go_wp2_with (at_builtin
                           refine wp_appC ty rfl (.tmp 100) (.tmp 101) rfl w.heap.size _ fa _ _ _ fb rfl HO9.out rfl HNB.out.symm HC9.out (by rw [HNA.out, HNB.out]; omega) hs9 ?_
                           intro v8 w8 hown8 hg8 hat8
                           have hB8 : Below w.heap.size w w8 := below_appC hB9 HO9.out hg8 hs9
                           rw [← HR.out] at hown8
                           have HO8 := Lib.hid hown8
                           clear hat8 hg8 hown8)
              go_ret
              exact ⟨_, rfl, by rw [HF.out]; exact HO8.out, hB8⟩

set_option maxHeartbeats 1000000 in
theorem rfewest_any (p : Option Addr) (cap n : Nat) (l : List Pfx) (w : World) (hn : n = l.length) (hc : CI lay w p cap l) (M : List Pfx) (hM : M = if wrong l = 0 then few0 l else []) (c : Int) (hcw : c = wrong l) :
    Calls Tryd.prog 10 #[.slice p n cap] w fun e w' => ∃ v, e = .returned (.tuple #[v, .int .i64 c]) ∧ OC lay 23 w' w.heap.size v M ∧ Below w.heap.size w w' := by
  have hl := hc.len_le
  by_cases h32 : 32 < l.length
  · have hw : wrong l = 4 := by unfold wrong; rw [if_pos h32]
    have hM' : M = [] := by rw [hM, if_neg (by rw [hw]; decide)]
    have hc4 : c = 4 := by rw [hcw, hw]
    have t0 : decide ((n : Int) > 32) = true := decide_eq_true (by omega)
    clear hM hcw hw
    subst hM' hc4
    go_enter Tryd.func10, Tryd.ntmps10
    go_wp2_with fail
    go_ret2
    exact ⟨_, rfl, OC.nil _ _ _ _, brefl w⟩
  · have t0 : decide ((n : Int) > 32) = false := decide_eq_false (by omega)
    have hw : wrong l = badL l := by unfold wrong; rw [if_neg h32]
    rw [hw] at hM hcw
    have hn32 : n ≤ 32 := by omega
    have PX := Lib.hid (fun (x : Pfx) W => rprefix_any x W _ rfl)
    unfold val at PX
    have FW := Lib.hid (fun (h : badL l = 0) W (hW : Below w.heap.size w W) => rfew_any p cap n l hn hn32 ((badL_zero l).1 h) 16 (Nat.le_refl _) 0 0 (by simp) (by simp) W (hc.below hW) 0 (by simp))
    have HM := Lib.hid hM
    have HC := Lib.hid hcw
    have HN := Lib.hid hn
    have HCI := Lib.hid hc
    clear hM hcw hw hn hc h32 hl
    go_enter Tryd.func10, Tryd.ntmps10
    go_wp2_with fail
    go_loopw [4] (fun i wr => ∃ k : Nat, i = .int .i64 k ∧ k ≤ n ∧ Hid (∀ x ∈ l.take k, code x = 0) ∧ Below w.heap.size w wr) (fun i _ => n - (intOf i).toNat)
    case atStart => exact ⟨0, by rfl, Nat.zero_le _, fun x hx => by simp at hx, brefl w⟩
    case round =>
      obtain ⟨k, rfl, hk, H, hB⟩ := hrel
      have hsB := hB.size
      by_cases hlt : k < n
      · have hjl : k < l.length := by rw [← HN.out]; exact hlt
        obtain ⟨b, off, rfl, hbw, hcell⟩ := HCI.out.2.2 (by omega)
        obtain ⟨x, hx⟩ : ∃ x, l[k]? = some x := ⟨_, List.getElem?_eq_getElem hjl⟩
        have hbk := hB.block b hbw
        have x0 : wr.cell? ⟨b, off + k * 2, none⟩ = some (.int .i64 x.adr) := (World.cell?_of_block (w := w) (a := ⟨b, off + k * 2, none⟩) hbk).trans (hcell k x hx 0 _ rfl)
        have x1 : wr.cell? ⟨b, off + k * 2 + 1, none⟩ = some (.int .i64 x.len) := (World.cell?_of_block (w := w) (a := ⟨b, off + k * 2 + 1, none⟩) hbk).trans (hcell k x hx 1 _ rfl)
        have C := Lib.hid (PX.out x)
        have HX := Lib.hid hx
        clear hcell hx hbk hjl
        by_cases h0 : code x = 0
        · have HT := Lib.hid (show ∀ y ∈ l.take (k + 1), code y = 0 from fun y hy => by
            rw [take_one HX.out, List.mem_append, List.mem_singleton] at hy
            rcases hy with hy | rfl
            · exact H.out y hy
            · exact h0)
          rw [h0] at C
          clear h0
          go_wp2_with fail
          refine (C.out _).mono ?_; rintro e w1 ⟨rfl, hg1⟩
          have hB1 : Below w.heap.size w w1 := below_gr hB hsB hg1
          clear hg1 hB
          go_wp2_with fail
          go_roundw
          case rel => exact ⟨k + 1, by first | rfl | go_num, by omega, HT.out, hB1⟩
          case measure => simp [intOf]; omega
        · have hbad := badL_at l k x H.out HX.out h0
          have HBd := Lib.hid (show c = code x from by rw [HC.out]; exact hbad)
          have HMn := Lib.hid (show M = [] from by rw [HM.out, if_neg (by rw [hbad]; exact h0)])
          obtain ⟨cx, hcx⟩ : ∃ cx, code x = cx := ⟨_, rfl⟩
          rw [hcx] at C h0 HBd
          have t9 : (cx != 0) = true := by simpa using h0
          clear hcx hbad h0
          go_wp2_with fail
          refine (C.out _).mono ?_; rintro e w1 ⟨rfl, hg1⟩
          have hB1 : Below w.heap.size w w1 := below_gr hB hsB hg1
          clear hg1 hB
          go_wp2_with fail
          go_ret2
          exact ⟨_, by rw [HBd.out]; rfl, by rw [HMn.out]; exact OC.nil _ _ _ _, hB1⟩
      · obtain rfl : k = n := by omega
        have h0 : badL l = 0 := (badL_zero l).2 fun x hx => (good_iff x).1 (H.out x (by rw [List.take_of_length_le (by rw [← HN.out]; exact Nat.le_refl _)]; exact hx))
        have F := Lib.hid (FW.out h0)
        have HBd := Lib.hid (show c = 0 from by rw [HC.out]; exact h0)
        have HMn := Lib.hid (show M = few0 l from by rw [HM.out, if_pos h0])
        clear h0 FW
        go_wp2_with fail
        refine (F.out _ hB).mono ?_; rintro e w1 ⟨v, rfl, hown, hb1⟩
        have hB1 := Lib.hid (bcall hB hb1)
        have HO := Lib.hid (hown.mono hsB)
        clear hown
        go_wp2_with fail
        go_ret2
        exact ⟨_, by rw [HBd.out]; rfl, by rw [HMn.out]; exact HO.out, hB1.out⟩
end Go.Proofs.YtfkfffcbhjmekaaDoor.Cidr
