/- LpmPlays: for any sequence of operations on a table, all results, routes and lookups are as specified: for every input, the row's handle laid as the card says. -/
import Derived.Test.YtapaglapngbbpaaDoorCards
import Derived.Test.YtapaglapngbbpaaDoorTie
import Derived.Deep.DeepHandedRow
import Derived.Lib.LaidTab
import Derived.LaidHandle
import Derived.SevenTiedAt
import Derived.Test.YtapaglapngbbpaaDoorRops
import Derived.Test.YtapaglapngbbpaaDoorRows0
import Derived.Test.YtapaglapngbbpaaDoorLpmLaw
namespace Go.Proofs.YtapaglapngbbpaaDoor.LpmPlaysL
open Go.ChangeShapes Go.WideShapes Go.ChangeAt Go.RowKit Go.Sort Go.Proofs.YtapaglapngbbpaaDoor.Kit Go.Proofs.YtapaglapngbbpaaDoor.App Go.Proofs.YtapaglapngbbpaaDoor.Cells Go.Proofs.YtapaglapngbbpaaDoor.Cidr Go.Proofs.YtapaglapngbbpaaDoor.CidrMath Go.Proofs.YtapaglapngbbpaaDoor.RouteMath Go.Proofs.YtapaglapngbbpaaDoor.Route Go.Proofs.YtapaglapngbbpaaDoor.Lpm Go.Proofs.YtapaglapngbbpaaDoor.As
set_option linter.unusedVariables false
set_option maxRecDepth 20000

theorem box_kept {W W' : World} {b g : Nat} {r : Rt} (h : BoxR W b r) (hg : W.grownBy W' (some g)) (hne : b ≠ g) : BoxR W' b r := by
  have hk := hg.block b h.1 (fun e => hne (Option.some.inj e))
  exact ⟨Nat.lt_of_lt_of_le h.1 hg.size, (World.cell?_of_block (a := ⟨b, 0, none⟩) hk).trans h.2.1, (World.cell?_of_block (a := ⟨b, 1, none⟩) hk).trans h.2.2.1, (World.cell?_of_block (a := ⟨b, 2, none⟩) hk).trans h.2.2.2⟩
theorem pbox_kept {W W' : World} {b g : Nat} {r : Pfx} (h : Box W b r) (hg : W.grownBy W' (some g)) (hne : b ≠ g) : Box W' b r := by
  have hk := hg.block b h.1 (fun e => hne (Option.some.inj e))
  exact ⟨Nat.lt_of_lt_of_le h.1 hg.size, (World.cell?_of_block (a := ⟨b, 0, none⟩) hk).trans h.2.1, (World.cell?_of_block (a := ⟨b, 1, none⟩) hk).trans h.2.2⟩
/-- The table in its block g; the document's list in the cell of block b. -/
structure St (W : World) (g b : Nat) (q : Option Addr) (c : Nat) (l : List Rt) : Prop where
  tab : Tab W g l
  cell : W.cell? ⟨b, 0, none⟩ = some (.slice q l.length c)
  fz : W.frozen? ⟨b, 0, none⟩ = false
  ci : CI layR W q c l
  far : ∀ a, q = some a → b < a.block
  gt : GT l
  gb : g < b
theorem St.lt {W : World} {g b : Nat} {q : Option Addr} {c : Nat} {l : List Rt} (h : St W g b q c l) : b < W.heap.size := cell_in (p := ⟨b, 0, none⟩) h.cell
theorem frozen_block {w w' : World} {a : Addr} (h : w'.heap[a.block]? = w.heap[a.block]?) : w'.frozen? a = w.frozen? a := by unfold World.frozen?; rw [h]
theorem St.below {W W' : World} {g b : Nat} {q : Option Addr} {c : Nat} {l : List Rt} (h : St W g b q c l) (hb : Below W.heap.size W W') : St W' g b q c l :=
  ⟨h.tab.below hb h.tab.lt, (hb.cell (p := ⟨b, 0, none⟩) h.lt).trans h.cell, (frozen_block (a := ⟨b, 0, none⟩) (hb.block b h.lt)).trans h.fz, h.ci.below hb, h.far, h.gt, h.gb⟩
theorem St.drew {W : World} {g b : Nat} {q : Option Addr} {c : Nat} {l : List Rt} (h : St W g b q c l) : St W.drew g b q c l := ⟨h.tab, h.cell, h.fz, h.ci, h.far, h.gt, h.gb⟩
/-- The document's list turned: its cell stored. -/
structure Half (W : World) (g b : Nat) (q : Option Addr) (c : Nat) (l m : List Rt) : Prop where
  tab : Tab W g l
  cell : W.cell? ⟨b, 0, none⟩ = some (.slice q m.length c)
  fz : W.frozen? ⟨b, 0, none⟩ = false
  ci : CI layR W q c m
  far : ∀ a, q = some a → b < a.block
theorem cell_after (W : World) (b : Nat) (v u : Value) (h : W.cell? ⟨b, 0, none⟩ = some u) : (W.setCell ⟨b, 0, none⟩ v).cell? ⟨b, 0, none⟩ = some v := World.cell?_setCell_same' _ _ _ (by rw [h]; rfl)
theorem half {W W' : World} {g b : Nat} {q q' : Option Addr} {c c' : Nat} {l m : List Rt} (h : St W g b q c l) (n : New W W' q q' c' m) : Half (W'.setCell ⟨b, 0, none⟩ (.slice q' m.length c')) g b q' c' l m := by
  have h2 := h.below n.below
  have hg := grown_set W' b 0 (.slice q' m.length c')
  have far : ∀ a, q' = some a → b < a.block := fun a ha => by
    rcases n.far a ha with h3 | h3
    · exact h.far a h3
    · exact Nat.lt_of_lt_of_le h.lt h3
  refine ⟨h2.tab.grown hg (fun e => by have := Option.some.inj e; have := h.gb; omega), cell_after W' b _ _ h2.cell, ?_, n.ci.keep hg.size (fun a ha hlt => hg.block _ hlt (fun e => by have := far a ha; have := Option.some.inj e; omega)), far⟩
  have e : (W'.setCell ⟨b, 0, none⟩ (.slice q' m.length c')).frozen? ⟨b, 0, none⟩ = W'.frozen? ⟨b, 0, none⟩ := by simp
  rw [e]; exact h2.fz
theorem whole {W W' : World} {g b : Nat} {q : Option Addr} {c : Nat} {l m : List Rt} (h : Half W g b q c l m) (hgb : g < b) (hG : GT m) (hT : Tab W' g m) (hg : W.grownBy W' (some g)) : St W' g b q c m := by
  have hlt : b < W.heap.size := cell_in (p := ⟨b, 0, none⟩) h.cell
  have hk := hg.block b hlt (fun e => by have := Option.some.inj e; omega)
  exact ⟨hT, (World.cell?_of_block (a := ⟨b, 0, none⟩) hk).trans h.cell, (frozen_block (a := ⟨b, 0, none⟩) hk).trans h.fz, h.ci.keep hg.size (fun a ha hl => hg.block _ hl (fun e => by have := h.far a ha; have := Option.some.inj e; omega)), h.far, hG, hgb⟩
set_option maxHeartbeats 4000000 in
theorem core (p : Option Addr) (cap n : Nat) (ls : List (List Int)) (a : Int) (w : World) (hH : Handle w) (hn : n = ls.length) (hR : RowsI w p cap ls) :
    Calls Tryd.prog 5 #[.slice p n cap, .int .i64 a] w fun e w' => e = .returned (.bool true) ∧ Below w.heap.size w w' := by
  have HH := Lib.hid (fun W (hb : Below w.heap.size w W) => hH.below hb)
  have HR := Lib.hid hR
  have hcap := hR.len_le
  rw [← hn] at hcap
  have HN := Lib.hid hn
  have N := Lib.hid (new_any w)
  clear hn hR hH
  go_enter Tryd.func5, Tryd.ntmps5
  go_wp2_with fail
  refine N.out.mono ?_; rintro e w1 ⟨rfl, hT1, hb1⟩
  clear N
  obtain ⟨g, hg⟩ : ∃ g, w.heap.size = g := ⟨_, rfl⟩
  have HG := Lib.hid hg
  rw [hg] at hT1
  rw [hg] at ⊢
  clear hg
  obtain ⟨b, hb⟩ : ∃ b, w1.heap.size = b := ⟨_, rfl⟩
  have hgb : g < b := by rw [← hb]; exact hT1.lt
  go_wp2_with fail
  have HB0 : w.heap.size ≤ b := by rw [HG.out]; exact Nat.le_of_lt hgb
  have HSt := Lib.hid (show St (w1.alloc (.cells #[.slice none 0 0] 47)) g b none 0 [] from
    ⟨hT1.below (balloc (brefl w1) _) hT1.lt, by rw [← hb]; exact new_slice w1 none 0 0 _, by rw [← hb]; simp, CI.nil layR _, fun a ha => (by simp at ha), GT.nil, hgb⟩)
  have hB1 : Below w.heap.size w (w1.alloc (.cells #[.slice none 0 0] 47)) := balloc hb1 _
  clear hb hT1 hb1
  generalize w1.alloc (.cells #[.slice none 0 0] 47) = w2 at HSt hB1 ⊢
  go_loopw [7] (fun iv wr => ∃ k : Nat, k ≤ n ∧ iv = .int .i64 (k : Int) ∧ ∃ l q c, Hid (St wr g b q c l) ∧ Below w.heap.size w wr) (fun i _ => n - (intOf i).toNat)
  case atStart => exact ⟨0, Nat.zero_le _, rfl, [], none, 0, HSt, hB1⟩
  case round =>
    obtain ⟨k, hk, rfl, l, q, c, HS, hB⟩ := hrel
    by_cases hkn : k < n
    · have t1 : decide ((k : Int) < (n : Int)) = true := decide_eq_true (by omega)
      by_cases hk60 : k < 60
      · have t2 : decide ((k : Int) < 60) = true := decide_eq_true (by omega)
        have hw1 : IntKind.i64.wrap ((k : Int) + 1) = ((k + 1 : Nat) : Int) := by rw [IntKind.wrap_i64]; omega
        obtain ⟨b0, off0, rfl, hb0, hrow⟩ := HR.out.2.2 (by have := HN.out; omega)
        obtain ⟨qr, cr, hq, hI⟩ := hrow k (by have := HN.out; omega)
        have hq' : wr.cell? ⟨b0, off0 + k, none⟩ = some (.slice qr (ls[k]?.getD []).length cr) := (hB.cell (p := ⟨b0, off0 + k, none⟩) hb0).trans hq
        clear hq hrow hb0
        generalize ls[k]?.getD [] = row at hq' hI
        by_cases h3 : row.length = 3
        · have hq3 := hq'
          rw [h3] at hq3
          clear hq'
          obtain ⟨x0, x1, x2, rfl⟩ : ∃ x0 x1 x2, row = [x0, x1, x2] := by
            match row, h3 with
            | [x0, x1, x2], _ => exact ⟨x0, x1, x2, rfl⟩
          obtain ⟨bb, off, rfl, hbb, hcs⟩ := hI.2.2.2 (by simp)
          have K := Lib.hid (fun (W' : World) (hb : Below w.heap.size w W') => show W'.cell? ⟨bb, off, none⟩ = some (.int .i64 x0) ∧ W'.cell? ⟨bb, off + 1, none⟩ = some (.int .i64 x1) ∧ W'.cell? ⟨bb, off + 2, none⟩ = some (.int .i64 x2) from
            ⟨(hb.cell (p := ⟨bb, off, none⟩) hbb).trans (hcs 0 (by simp)), (hb.cell (p := ⟨bb, off + 1, none⟩) hbb).trans (hcs 1 (by simp)), (hb.cell (p := ⟨bb, off + 2, none⟩) hbb).trans (hcs 2 (by simp))⟩)
          have hBd : Below w.heap.size w wr.drew := hB.drew
          clear hcs hI hbb
          go_wp2_with fail
          go_region_held3 (fun W' => W'.cell? ⟨bb, off, none⟩ = some (.int .i64 x0) ∧ W'.cell? ⟨bb, off + 1, none⟩ = some (.int .i64 x1) ∧ W'.cell? ⟨bb, off + 2, none⟩ = some (.int .i64 x2))
            (first
              | exact K.out _ hBd
              | exact K.out _ (balloc hB _).drew
              | go_keep)
            (first
              | fail)
          have BX := Lib.hid (show BoxR (wr.alloc (.cells #[.int .i64 x0, .int .i64 x1, .int .i64 x2] 38)).drew wr.heap.size ⟨x0, x1, x2⟩ from BoxR.new wr ⟨x0, x1, x2⟩ 38)
          have HSd := Lib.hid (show St (wr.alloc (.cells #[.int .i64 x0, .int .i64 x1, .int .i64 x2] 38)).drew g b q c l from (HS.out.below (balloc (brefl wr) _)).drew)
          have hBa : Below w.heap.size w (wr.alloc (.cells #[.int .i64 x0, .int .i64 x1, .int .i64 x2] 38)).drew := (balloc hB _).drew
          have HLT := Lib.hid (show b < wr.heap.size from HS.out.lt)
          clear hBd hB K
          generalize (wr.alloc (.cells #[.int .i64 x0, .int .i64 x1, .int .i64 x2] 38)).drew = wa at BX HSd hBa ⊢
          generalize wr.heap.size = bx at BX HLT ⊢
          obtain ⟨l2, hl2⟩ : ∃ l2, l2 = setN l ⟨x0, x1, x2⟩ := ⟨_, rfl⟩
          obtain ⟨e1, he1⟩ : ∃ e1, e1 = setC l ⟨x0, x1, x2⟩ := ⟨_, rfl⟩
          obtain ⟨V, hV⟩ : ∃ V, V = er e1 := ⟨_, rfl⟩
          have HV := Lib.hid hV
          have RS := Lib.hid (rset_any q c l.length l ⟨x0, x1, x2⟩ wa rfl HSd.out.ci HSd.out.gt)
          have SC := Lib.hid (fun W hT => set_any g l ⟨x0, x1, x2⟩ W hT HSd.out.gt)
          have HG2 := Lib.hid (HSd.out.gt.set ⟨x0, x1, x2⟩)
          rw [← hl2, ← he1] at RS
          rw [← hl2, ← he1, ← hV] at SC
          rw [← hl2] at HG2
          simp only at RS SC
          clear he1 hl2 HS hV
          have cx := HSd.out.cell
          obtain ⟨_, r0, r1, r2⟩ := BX.out
          simp only at r0 r1 r2
          go_wp2_with fail
          refine RS.out.mono ?_; rintro e w5 ⟨q2, c2, rfl, hN⟩
          have hB5 := bcall hBa hN.below
          have c5 := (HSd.out.below hN.below).cell
          have f5 := (HSd.out.below hN.below).fz
          have HF := Lib.hid (half HSd.out hN)
          have hB6 : Below w.heap.size w (w5.setCell ⟨b, 0, none⟩ (.slice q2 l2.length c2)) := bgrown hB5 (Nat.le_refl _) (grown_set w5 b 0 _) HB0
          have BX6 := Lib.hid (box_kept (BX.out.below hN.below BX.out.1) (grown_set w5 b 0 (.slice q2 l2.length c2)) (Nat.ne_of_gt HLT.out))
          have HGB := Lib.hid HSd.out.gb
          clear cx r0 r1 r2 hN BX HSd RS hBa
          obtain ⟨_, r0, r1, r2⟩ := BX6.out
          simp only at r0 r1 r2
          go_wp2_with fail
          generalize w5.setCell ⟨b, 0, none⟩ (.slice q2 l2.length c2) = w6 at HF hB6 BX6 r0 r1 r2 ⊢
          clear c5 f5 hB5
          refine (SC.out w6 HF.out.tab).mono ?_; rintro e w7 ⟨rfl, hT7, hg7⟩
          have HS2 := Lib.hid (whole HF.out HGB.out HG2.out hT7 hg7)
          have hB2 := bgrown hB6 (Nat.le_refl _) hg7 (Nat.le_of_eq HG.out)
          clear hT7 hg7 r0 r1 r2 BX6 hB6 HF SC HG2
          have hBd2 : Below w.heap.size w w7.drew := hB2.drew
          have HSd2 := Lib.hid (St.drew HS2.out)
          have ER := Lib.hid (error_same e1 w7.drew (HH.out _ hBd2))
          rw [← HV.out] at ER
          have cd := HSd2.out.cell
          clear hB2 HS2
          go_wp2_with fail
          go_region_held3 (fun W' => W'.cell? ⟨b, 0, none⟩ = some (.slice q2 l2.length c2))
            (first
              | exact cd
              | exact HS8.out.cell
              | exact HS9.out.cell
              | exact HS10.out.cell
              | go_keep)
            (first
              | (go_at_call 11; refine ER.out.mono ?_; rintro e w8 ⟨rfl, hb8⟩
                 have HS8 := Lib.hid (HSd2.out.below hb8)
                 have hB8 := bcall hBd2 hb8
                 clear hb8)
              | (go_at_call 8; refine (tabRoutes_any g _ l2 w8 rfl HS8.out.tab).mono ?_; rintro e w9 ⟨v9, rfl, hO9, hb9⟩
                 obtain ⟨p9, c9, rfl, hC9, _⟩ := form3 hO9
                 have HC9 := Lib.hid hC9
                 have HS9 := Lib.hid (HS8.out.below hb9)
                 have hB9 := bcall hB8 hb9
                 clear hb9 hO9 hC9)
              | (go_at_call 15; refine (routes_any p9 q2 c9 c2 _ _ l2 l2 w9 rfl rfl HC9.out HS9.out.ci true (by simp)).mono ?_; rintro e w10 ⟨rfl, q10, rfl⟩
                 have HS10 : Hid (St (w9.drewN q10) g b q2 c2 l2) := Lib.hid ⟨HS9.out.tab, HS9.out.cell, HS9.out.fz, HS9.out.ci, HS9.out.far, HS9.out.gt, HS9.out.gb⟩
                 have hB10 := below_drewN hB9 q10))
          go_wp2_with fail
          go_roundw
          case rel => exact ⟨k + 1, by omega, rfl, l2, q2, c2, HS10, hB10⟩
          case measure => simp [intOf]; omega
        · by_cases h2 : row.length = 2
          · have hq3 := hq'
            rw [h2] at hq3
            clear hq'
            obtain ⟨x0, x1, rfl⟩ : ∃ x0 x1, row = [x0, x1] := by
              match row, h2 with
              | [x0, x1], _ => exact ⟨x0, x1, rfl⟩
            obtain ⟨bb, off, rfl, hbb, hcs⟩ := hI.2.2.2 (by simp)
            have K := Lib.hid (fun (W' : World) (hb : Below w.heap.size w W') => show W'.cell? ⟨bb, off, none⟩ = some (.int .i64 x0) ∧ W'.cell? ⟨bb, off + 1, none⟩ = some (.int .i64 x1) from
              ⟨(hb.cell (p := ⟨bb, off, none⟩) hbb).trans (hcs 0 (by simp)), (hb.cell (p := ⟨bb, off + 1, none⟩) hbb).trans (hcs 1 (by simp))⟩)
            have hBd : Below w.heap.size w wr.drew := hB.drew
            clear hcs hI hbb
            go_wp2_with fail
            go_region_held3 (fun W' => W'.cell? ⟨bb, off, none⟩ = some (.int .i64 x0) ∧ W'.cell? ⟨bb, off + 1, none⟩ = some (.int .i64 x1))
              (first
                | exact K.out _ hBd
                | exact K.out _ (balloc hB _).drew
                | go_keep)
              (first
                | fail)
            have BX := Lib.hid (show Box (wr.alloc (.cells #[.int .i64 x0, .int .i64 x1] 36)).drew wr.heap.size ⟨x0, x1⟩ from Box.new wr ⟨x0, x1⟩ 36)
            have HSd := Lib.hid (show St (wr.alloc (.cells #[.int .i64 x0, .int .i64 x1] 36)).drew g b q c l from (HS.out.below (balloc (brefl wr) _)).drew)
            have hBa : Below w.heap.size w (wr.alloc (.cells #[.int .i64 x0, .int .i64 x1] 36)).drew := (balloc hB _).drew
            have HLT := Lib.hid (show b < wr.heap.size from HS.out.lt)
            clear hBd hB K
            generalize (wr.alloc (.cells #[.int .i64 x0, .int .i64 x1] 36)).drew = wa at BX HSd hBa ⊢
            generalize wr.heap.size = bx at BX HLT ⊢
            obtain ⟨l2, hl2⟩ : ∃ l2, l2 = dropN l ⟨x0, x1⟩ := ⟨_, rfl⟩
            obtain ⟨e1, he1⟩ : ∃ e1, e1 = dropC l ⟨x0, x1⟩ := ⟨_, rfl⟩
            obtain ⟨V, hV⟩ : ∃ V, V = er e1 := ⟨_, rfl⟩
            have HV := Lib.hid hV
            have RS := Lib.hid (rdrop_any q c l.length l ⟨x0, x1⟩ wa rfl HSd.out.ci HSd.out.gt)
            have SC := Lib.hid (fun W hT => drop_any g l ⟨x0, x1⟩ W hT HSd.out.gt)
            have HG2 := Lib.hid (HSd.out.gt.drop ⟨x0, x1⟩)
            rw [← hl2, ← he1] at RS
            rw [← hl2, ← he1, ← hV] at SC
            rw [← hl2] at HG2
            simp only at RS SC
            clear he1 hl2 HS hV
            have cx := HSd.out.cell
            obtain ⟨_, r0, r1⟩ := BX.out
            simp only at r0 r1
            go_wp2_with fail
            refine RS.out.mono ?_; rintro e w5 ⟨q2, c2, rfl, hN⟩
            have hB5 := bcall hBa hN.below
            have c5 := (HSd.out.below hN.below).cell
            have f5 := (HSd.out.below hN.below).fz
            have HF := Lib.hid (half HSd.out hN)
            have hB6 : Below w.heap.size w (w5.setCell ⟨b, 0, none⟩ (.slice q2 l2.length c2)) := bgrown hB5 (Nat.le_refl _) (grown_set w5 b 0 _) HB0
            have BX6 := Lib.hid (pbox_kept (BX.out.below hN.below BX.out.1) (grown_set w5 b 0 (.slice q2 l2.length c2)) (Nat.ne_of_gt HLT.out))
            have HGB := Lib.hid HSd.out.gb
            clear cx r0 r1 hN BX HSd RS hBa
            obtain ⟨_, r0, r1⟩ := BX6.out
            simp only at r0 r1
            go_wp2_with fail
            generalize w5.setCell ⟨b, 0, none⟩ (.slice q2 l2.length c2) = w6 at HF hB6 BX6 r0 r1 ⊢
            clear c5 f5 hB5
            refine (SC.out w6 HF.out.tab).mono ?_; rintro e w7 ⟨rfl, hT7, hg7⟩
            have HS2 := Lib.hid (whole HF.out HGB.out HG2.out hT7 hg7)
            have hB2 := bgrown hB6 (Nat.le_refl _) hg7 (Nat.le_of_eq HG.out)
            clear hT7 hg7 r0 r1 BX6 hB6 HF SC HG2
            have hBd2 : Below w.heap.size w w7.drew := hB2.drew
            have HSd2 := Lib.hid (St.drew HS2.out)
            have ER := Lib.hid (error_same e1 w7.drew (HH.out _ hBd2))
            rw [← HV.out] at ER
            have cd := HSd2.out.cell
            clear hB2 HS2
            go_wp2_with fail
            go_region_held3 (fun W' => W'.cell? ⟨b, 0, none⟩ = some (.slice q2 l2.length c2))
              (first
                | exact cd
                | exact HS8.out.cell
                | exact HS9.out.cell
                | exact HS10.out.cell
                | go_keep)
              (first
                | (go_at_call 11; refine ER.out.mono ?_; rintro e w8 ⟨rfl, hb8⟩
                   have HS8 := Lib.hid (HSd2.out.below hb8)
                   have hB8 := bcall hBd2 hb8
                   clear hb8)
                | (go_at_call 8; refine (tabRoutes_any g _ l2 w8 rfl HS8.out.tab).mono ?_; rintro e w9 ⟨v9, rfl, hO9, hb9⟩
                   obtain ⟨p9, c9, rfl, hC9, _⟩ := form3 hO9
                   have HC9 := Lib.hid hC9
                   have HS9 := Lib.hid (HS8.out.below hb9)
                   have hB9 := bcall hB8 hb9
                   clear hb9 hO9 hC9)
                | (go_at_call 15; refine (routes_any p9 q2 c9 c2 _ _ l2 l2 w9 rfl rfl HC9.out HS9.out.ci true (by simp)).mono ?_; rintro e w10 ⟨rfl, q10, rfl⟩
                   have HS10 : Hid (St (w9.drewN q10) g b q2 c2 l2) := Lib.hid ⟨HS9.out.tab, HS9.out.cell, HS9.out.fz, HS9.out.ci, HS9.out.far, HS9.out.gt, HS9.out.gb⟩
                   have hB10 := below_drewN hB9 q10))
            go_wp2_with fail
            go_roundw
            case rel => exact ⟨k + 1, by omega, rfl, l2, q2, c2, HS10, hB10⟩
            case measure => simp [intOf]; omega
          · have hrl : row.length ≤ 9223372036854775807 := by have h4 := hI.1; have h5 := hI.2.1; unfold maxLen at h5; omega
            obtain ⟨m, hm⟩ : ∃ m, row.length = m := ⟨_, rfl⟩
            rw [hm] at hq' h3 h2 hrl
            have t3 : ((m : Int) == 3) = false := by rw [beq_eq_false_iff_ne]; omega
            have t4 : ((m : Int) == 2) = false := by rw [beq_eq_false_iff_ne]; omega
            obtain ⟨e1, he1⟩ : ∃ e1 : Int, e1 = 0 := ⟨_, rfl⟩
            obtain ⟨V, hV⟩ : ∃ V, V = er e1 := ⟨_, rfl⟩
            have HV := Lib.hid hV
            have HS2 := HS
            have hB2 := hB
            have HE1 := Lib.hid he1
            clear hm hI HS hB he1 hV
            have hBd2 : Below w.heap.size w wr.drew := hB2.drew
            have HSd2 := Lib.hid (St.drew HS2.out)
            have ER := Lib.hid (error_same e1 wr.drew (HH.out _ hBd2))
            rw [HE1.out, er_0] at ER
            have cd := HSd2.out.cell
            clear hB2 HS2
            go_wp2_with fail
            go_region_held3 (fun W' => W'.cell? ⟨b, 0, none⟩ = some (.slice q l.length c))
              (first
                | exact cd
                | exact HS8.out.cell
                | exact HS9.out.cell
                | exact HS10.out.cell
                | go_keep)
              (first
                | (go_at_call 11; refine ER.out.mono ?_; rintro e w8 ⟨rfl, hb8⟩
                   have HS8 := Lib.hid (HSd2.out.below hb8)
                   have hB8 := bcall hBd2 hb8
                   clear hb8)
                | (go_at_call 8; refine (tabRoutes_any g _ l w8 rfl HS8.out.tab).mono ?_; rintro e w9 ⟨v9, rfl, hO9, hb9⟩
                   obtain ⟨p9, c9, rfl, hC9, _⟩ := form3 hO9
                   have HC9 := Lib.hid hC9
                   have HS9 := Lib.hid (HS8.out.below hb9)
                   have hB9 := bcall hB8 hb9
                   clear hb9 hO9 hC9)
                | (go_at_call 15; refine (routes_any p9 q c9 c _ _ l l w9 rfl rfl HC9.out HS9.out.ci true (by simp)).mono ?_; rintro e w10 ⟨rfl, q10, rfl⟩
                   have HS10 : Hid (St (w9.drewN q10) g b q c l) := Lib.hid ⟨HS9.out.tab, HS9.out.cell, HS9.out.fz, HS9.out.ci, HS9.out.far, HS9.out.gt, HS9.out.gb⟩
                   have hB10 := below_drewN hB9 q10))
            go_wp2_with fail
            go_roundw
            case rel => exact ⟨k + 1, by omega, rfl, l, q, c, HS10, hB10⟩
            case measure => simp [intOf]; omega
      · have t2 : decide ((k : Int) < 60) = false := decide_eq_false (by omega)
        have RF := Lib.hid (rfind_all q c l.length l a wr rfl HS.out.ci HS.out.gt)
        have FI := Lib.hid (fun W hT => find_all g a l W hT HS.out.gt)
        obtain ⟨h1, hh1⟩ : ∃ x, x = foundH (fnd l a) := ⟨_, rfl⟩
        obtain ⟨m1, hm1⟩ : ∃ x, x = foundL (fnd l a) := ⟨_, rfl⟩
        obtain ⟨e1, he1⟩ : ∃ x, x = fndE l a := ⟨_, rfl⟩
        obtain ⟨V, hV⟩ : ∃ V, V = er e1 := ⟨_, rfl⟩
        have HV := Lib.hid hV
        rw [← hh1, ← hm1, ← he1] at RF
        rw [← hh1, ← hm1, ← he1, ← hV] at FI
        have cx := HS.out.cell
        clear hh1 hm1 he1 hV
        go_wp2_with fail
        refine RF.out.mono ?_; rintro e w4 ⟨rfl, hg4⟩
        have hB4 := lgr hB hB.size hg4
        have HT4 := Lib.hid (HS.out.tab.gr hg4)
        clear hg4 cx RF HS hB
        go_wp2_with fail
        refine (FI.out w4 HT4.out).mono ?_; rintro e w5 ⟨rfl, hb5⟩
        have hB5 := bcall hB4 hb5
        have ER := Lib.hid (error_same e1 w5 (HH.out w5 hB5))
        rw [← HV.out] at ER
        clear hb5 FI HT4 hB4
        go_wp2_with fail
        refine ER.out.mono ?_; rintro e w6 ⟨rfl, hb6⟩
        have hB6 := bcall hB5 hb6
        go_wp2_with fail
        go_ret
        exact ⟨rfl, hB6⟩
    · have t1 : decide ((k : Int) < (n : Int)) = false := decide_eq_false (by omega)
      have RF := Lib.hid (rfind_all q c l.length l a wr rfl HS.out.ci HS.out.gt)
      have FI := Lib.hid (fun W hT => find_all g a l W hT HS.out.gt)
      obtain ⟨h1, hh1⟩ : ∃ x, x = foundH (fnd l a) := ⟨_, rfl⟩
      obtain ⟨m1, hm1⟩ : ∃ x, x = foundL (fnd l a) := ⟨_, rfl⟩
      obtain ⟨e1, he1⟩ : ∃ x, x = fndE l a := ⟨_, rfl⟩
      obtain ⟨V, hV⟩ : ∃ V, V = er e1 := ⟨_, rfl⟩
      have HV := Lib.hid hV
      rw [← hh1, ← hm1, ← he1] at RF
      rw [← hh1, ← hm1, ← he1, ← hV] at FI
      have cx := HS.out.cell
      clear hh1 hm1 he1 hV
      go_wp2_with fail
      refine RF.out.mono ?_; rintro e w4 ⟨rfl, hg4⟩
      have hB4 := lgr hB hB.size hg4
      have HT4 := Lib.hid (HS.out.tab.gr hg4)
      clear hg4 cx RF HS hB
      go_wp2_with fail
      refine (FI.out w4 HT4.out).mono ?_; rintro e w5 ⟨rfl, hb5⟩
      have hB5 := bcall hB4 hb5
      have ER := Lib.hid (error_same e1 w5 (HH.out w5 hB5))
      rw [← HV.out] at ER
      clear hb5 FI HT4 hB4
      go_wp2_with fail
      refine ER.out.mono ?_; rintro e w6 ⟨rfl, hb6⟩
      have hB6 := bcall hB5 hb6
      go_wp2_with fail
      go_ret
      exact ⟨rfl, hB6⟩

theorem reads : Tryd.f5.params.toList.all (fun t => Tryd.prog.readableRec t && decide (t < Tryd.prog.types.size)) = true := by kernel_rfl
theorem et : Tryd.prog.globalNamed "errors.errorType" = some 0 := by kernel_rfl
theorem rt : (Tryd.prog.cutTypes.find? (·.1 == "internal/reflectlite.rtype")).map (·.2) = some 86 := by kernel_rfl
theorem oneRow : ((List.range Tryd.prog.types.size).filter fun t => Tryd.prog.rowNamed t [101, 114, 114, 111, 114]) = [29] := by kernel_rfl

theorem handle_of_laid {W : World} (h : laidMetH Tryd.prog Rows.lpmPlaysRow.laid W) : Handle W := by
  have h' : laidMet Tryd.prog [] W ∧ handlesMet Tryd.prog Rows.lpmPlaysRow.laid W := h
  obtain ⟨name, u, ty, e1, e2, e3, e4, e5⟩ := h'.2 _ (List.mem_singleton.2 rfl)
  have en : name = [101, 114, 114, 111, 114] := (Option.some.inj e1).symm
  subst en
  obtain rfl := Option.some.inj (rt.symm.trans e2)
  have hm : ty ∈ (List.range Tryd.prog.types.size).filter fun t => Tryd.prog.rowNamed t [101, 114, 114, 111, 114] := List.mem_filter.2 ⟨List.mem_range.2 e3, e4⟩
  rw [oneRow] at hm
  obtain rfl := List.mem_singleton.1 hm
  have hh : typeHandle Tryd.prog 29 = .pointer (some ⟨1, 29, none⟩) := by kernel_rfl
  rw [hh] at e5
  have e6 := World.var?_cell et e5 0
  unfold Handle
  simpa using e6

noncomputable def laidWorld (os : Os) : World :=
  { World.holding Tryd.prog os ⟨#[], #[], []⟩ with heap := (World.holding Tryd.prog os ⟨#[], #[], []⟩).heap.modify 0 fun
      | .cells _ t frozen => .cells #[.iface 86 (.agg #[.pointer (some ⟨1, 29, none⟩)])] t frozen
      | o => o }
theorem laid_met (os : Os) : laidMetH Tryd.prog Rows.lpmPlaysRow.laid ((laidWorld os).forCall (fun _ _ => 0) ⟨#[], #[.slice none 0 0, .int .i64 0], []⟩).memory :=
  laidMetH_of_parts (laidMet_nil _ _) (by kernel_rfl)
theorem reads_wit (os : Os) {H : Type} (enc : TypeId × Value → H) : ∃ places, DataW.whole enc Tryd.prog ((laidWorld os).forCall (fun _ _ => 0) ⟨#[], #[.slice none 0 0, .int .i64 0], []⟩).memory Tryd.f5.params.toList Rows.lpmPlaysSpec.vars false (#[.slice none 0 0, .int .i64 0] : Array Value).toList 8 = some ([.nil, .lit (.int .i64 0)], [], places) :=
  ⟨[], by kernel_rfl⟩

theorem contract (H : Type) (enc : TypeId × Value → H) (W : World) (base : Nat) (args : Array Value) (ds gs : List (DataW H)) (before : List MemPlace)
    (hval : ∀ (j : Nat) t v, Tryd.f5.params[j]? = some t → args[j]? = some v → Value.okWide Tryd.prog W .any base t v)
    (hW : DataW.Whole enc Tryd.prog Tryd.f5.params.toList Rows.lpmPlaysSpec.vars false W args.toList ds gs before) (hL : laidMetH Tryd.prog Rows.lpmPlaysRow.laid W) :
    Calls Tryd.prog 5 args W fun e W' => ∃ v, e = .returned v ∧ Rows.lpmPlaysSpec.post enc Tryd.prog Tryd.f5 false true false false W args v W' := by
  have hW' := hW
  have hg := handle_of_laid hL
  obtain ⟨p, q, hA0, hV, rfl, hfz, hnd⟩ := hW
  have hA : DataW.TrodAll enc Tryd.prog W 0 (fun _ => true) true Tryd.f5.params.toList args.toList ds p := hA0
  have hlt := hA.lt
  rw [Tryd.params5] at hA hval
  obtain ⟨v0, vs0, d0, ds0, p0, q0, hargs, rfl, rfl, h0, r0⟩ := trodAll_cons hA
  obtain ⟨v1, vs1, d1, ds1, p1, q1, hvs1, rfl, rfl, h1, r1⟩ := trodAll_cons r0
  obtain ⟨hvsn, rfl, rfl⟩ := trodAll_nil r1
  simp only [hvsn, hvs1] at hargs
  obtain rfl : args = #[v0, v1] := by cases args; simp_all
  obtain ⟨p0a, cap0, l0, rfl, i0, e0⟩ := open_rows Tryd.underlying22 Tryd.underlying48 Tryd.underlying3 (by kernel_rfl) (by kernel_rfl) (hval 0 22 v0 rfl rfl) h0 (fun x hx => hlt x (by simp [hx]))
  obtain ⟨a1, rfl, rfl, rfl, w1⟩ := open_int Tryd.underlying3 (hval 1 3 v1 rfl rfl) h1
  have b1 := bounds_int w1
  obtain ⟨rfl, rfl⟩ := trodVars_none hV
  clear hA0
  exact law_post 4 laid reads rfl Tryd.underlying4 rfl hW' ⟨rfl, rfl, rfl⟩ (core _ _ _ l0 a1 W hg rfl i0)

set_option maxRecDepth 100000 in
theorem lifted (os : Os) (started : os.Started) (H : Type) (enc : TypeId × Value → H) (F : Stop.Interp) :
    ReturnsInHanded {} Tryd.checked os 5 .any ((OpenSpec.ofChange Rows.lpmPlaysSpec).preRow enc Tryd.prog Tryd.f5 Rows.lpmPlaysRow.domain false Rows.lpmPlaysRow.laid) (((OpenSpec.ofChange Rows.lpmPlaysSpec).at F).post enc Tryd.prog Tryd.f5 false true false false) := by
  obtain ⟨places, hx⟩ := reads_wit os enc
  refine returnsInHanded_of_row (C := Tryd.checked) (s := (OpenSpec.ofChange Rows.lpmPlaysSpec)) own started (by kernel_rfl) Tryd.func5
    (witness_row_at (enc := enc) (C := Tryd.checked) false (laidWorld os) #[.slice none 0 0, .int .i64 0] rfl (by kernel_rfl) (by kernel_rfl) (by kernel_rfl)
      (OpenSpec.preRow_of_cond 8 hx (by kernel_rfl) (fun k hk => by cases hk) (by kernel_rfl) (laid_met os))) ?_
  intro W base args ds gs before hval hW _ hcond _ hL _ _
  exact contract H enc W base args ds gs before hval hW hL

theorem said : Rows.LpmPlaysSaid :=
  OpenClaim.holds_of_cond 5 Tryd.f5 rfl rfl rfl rfl rfl rfl rfl ⟨rfl, rfl, rfl, rfl, rfl⟩ rfl rfl rfl rfl rfl (by kernel_rfl) Tryd.func5 (by kernel_rfl)
    (of_decide_eq_true (by kernel_rfl)) (by unfold Func.isWrapper; first | (rw [if_pos (by decide +kernel)]; kernel_rfl) | (rw [if_neg (by decide +kernel)]; exact ⟨rfl, rfl⟩))
    (fun os started H enc _ F => by rw [OpenClaim.pre_eq_preRow]; exact lifted os started H enc F)

theorem plain (f : FuncId) (fn : Func) (hf : Tryd.pinned.checked.prog.funcNamed Rows.lpmPlaysRow.func = some f) (hfn : Tryd.pinned.checked.prog.funcs[f]? = some fn) :
    true = Tryd.pinned.checked.prog.looks [] ∧ ∀ (j : Nat) t, fn.params[j]? = some t → Tryd.pinned.checked.prog.wantsStandIn t = false := by
  obtain rfl : f = 5 := Option.some.inj ((show Tryd.prog.funcNamed Rows.lpmPlaysRow.func = some 5 by kernel_rfl).symm.trans hf) |>.symm
  obtain rfl : fn = Tryd.f5 := (Option.some.inj (Tryd.func5.symm.trans hfn)).symm
  refine ⟨by kernel_rfl, fun j t ht => ?_⟩
  have hall : Tryd.f5.params.toList.all (fun t => !Tryd.prog.wantsStandIn t) = true := by kernel_rfl
  have hm : t ∈ Tryd.f5.params.toList := by simpa using Array.mem_of_getElem? ht
  have := List.all_eq_true.1 hall t hm
  show Tryd.prog.wantsStandIn t = false
  simpa using this

theorem proved : Rows.LpmPlaysCardSaid :=
  Claim7.holds_tied_plain_at .later [] _ _ _ _ said (fun _ h => by cases h) (by kernel_rfl) (fun _ h => by cases h) lpmPlays_row_tie rfl ⟨rfl, rfl⟩ (by kernel_rfl) rfl plain (by kernel_rfl)
end Go.Proofs.YtapaglapngbbpaaDoor.LpmPlaysL
