/- Contracts of the document's Drop of routes. No statement is proved here. -/
import Derived.Test.YtapaglapngbbpaaDoorRset1
namespace Go.Proofs.YtapaglapngbbpaaDoor.Route
open Go.ChangeShapes Go.WideShapes Go.ChangeAt Go.RowKit Go.Sort Go.Proofs.YtapaglapngbbpaaDoor.Kit Go.Proofs.YtapaglapngbbpaaDoor.App Go.Proofs.YtapaglapngbbpaaDoor.Cells Go.Proofs.YtapaglapngbbpaaDoor.Cidr Go.Proofs.YtapaglapngbbpaaDoor.CidrMath Go.Proofs.YtapaglapngbbpaaDoor.RouteMath
set_option linter.unusedVariables false
set_option maxRecDepth 20000

/-- How Drop begins: the table's value, the prefix, the result's cell. -/
structure LaidP (w T : World) (q : Option Addr) (n cap : Nat) (r : Pfx) : Prop where
  below : Below w.heap.size w T
  size : T.heap.size = w.heap.size + 3
  tab : T.cell? ⟨w.heap.size, 0, none⟩ = some (.slice q n cap)
  box : Box T (w.heap.size + 1) r
  res : T.cell? ⟨w.heap.size + 1 + 1, 0, none⟩ = some (.slice none 0 0)
  fz : T.frozen? ⟨w.heap.size + 1 + 1, 0, none⟩ = false
theorem laidP_any (w : World) (q : Option Addr) (n cap : Nat) (r : Pfx) : LaidP w (((w.alloc (.cells #[.slice q n cap] 47)).alloc (.cells #[.int .i64 r.adr, .int .i64 r.len] 36)).alloc (.cells #[.slice none 0 0] 47)) q n cap r := by
  refine ⟨balloc (balloc (balloc (brefl w) _) _) _, by simp, ?_, ?_, ?_, ?_⟩
  · exact ((balloc (balloc (brefl _) _) _).cell (p := ⟨w.heap.size, 0, none⟩) (by simp)).trans (new_slice w q n cap _)
  · have h := Box.new (w.alloc (.cells #[.slice q n cap] 47)) r 36
    have h2 := h.below (balloc (brefl _) (.cells #[.slice none 0 0] 47)) h.1
    simpa using h2
  · go_simp
  · go_simp
theorem LaidP.on {w T W : World} {q : Option Addr} {n cap : Nat} {r : Pfx} (h : LaidP w T q n cap r) (hb : Below T.heap.size T W) :
    W.cell? ⟨w.heap.size, 0, none⟩ = some (.slice q n cap) ∧ Box W (w.heap.size + 1) r ∧ W.cell? ⟨w.heap.size + 1 + 1, 0, none⟩ = some (.slice none 0 0) ∧ W.frozen? ⟨w.heap.size + 1 + 1, 0, none⟩ = false ∧ Below w.heap.size w W := by
  have hs := h.size
  refine ⟨(hb.cell (p := ⟨w.heap.size, 0, none⟩) (by show w.heap.size < _; omega)).trans h.tab, h.box.below hb (by omega), (hb.cell (p := ⟨w.heap.size + 1 + 1, 0, none⟩) (by show w.heap.size + 1 + 1 < _; omega)).trans h.res, ?_, h.below.trans (hb.mono (by omega))⟩
  have e : W.frozen? ⟨w.heap.size + 1 + 1, 0, none⟩ = T.frozen? ⟨w.heap.size + 1 + 1, 0, none⟩ := by unfold World.frozen?; rw [hb.block (w.heap.size + 1 + 1) (by omega)]
  rw [e]; exact h.fz

set_option maxHeartbeats 2000000 in
theorem rdrop_bad (q : Option Addr) (cap n : Nat) (l : List Rt) (r : Pfx) (w : World) (hn : n = l.length) (hc : CI layR w q cap l) (hn32 : n ≤ 32) (c : Int) (hcc : c = code r) (h0 : c ≠ 0) :
    Calls Tryd.prog 19 #[.agg #[.slice q n cap], .agg #[.int .i64 r.adr, .int .i64 r.len]] w fun e w' => e = .returned (.tuple #[.agg #[.slice q n cap], .int .i64 c]) ∧ Below w.heap.size w w' := by
  have PX := Lib.hid (fun W => rprefix_any r W _ rfl)
  unfold Cidr.val at PX
  have LA := laidP_any w q n cap r
  obtain ⟨T, hT⟩ : ∃ T, T = (((w.alloc (.cells #[.slice q n cap] 47)).alloc (.cells #[.int .i64 r.adr, .int .i64 r.len] 36)).alloc (.cells #[.slice none 0 0] 47)) := ⟨_, rfl⟩
  rw [← hT] at LA
  have HL := Lib.hid (fun W h => LA.on (W := W) h)
  have hTs := LA.size
  rw [← hcc] at PX
  have t9 : (c != 0) = true := by simpa using h0
  clear LA hn hc hcc h0
  go_enter Tryd.func19, Tryd.ntmps19
  go_wp2_with fail
  rw [← hT]
  clear hT
  refine (PX.out _).mono ?_; rintro e w1 ⟨rfl, hg1⟩
  have hB1 : Below T.heap.size T w1 := hg1.below
  obtain ⟨c1, ⟨hbx, b10, b11⟩, d1, f1, hW1⟩ := HL.out w1 hB1
  clear PX hg1
  go_wp2_with fail
  refine bodyPost_ret (results_ct rfl Tryd.isAgg47 Tryd.sizeOf47 _ _ _ rfl _ (World.cell?_setCell_same' _ _ _ (by rw [d1]; rfl))) rfl ?_
  exact ⟨rfl, below_res hW1⟩

set_option maxHeartbeats 2000000 in
theorem rdrop_none (q : Option Addr) (cap n : Nat) (l : List Rt) (r : Pfx) (w : World) (hn : n = l.length) (hc : CI layR w q cap l) (hn32 : n ≤ 32) (hcode : code r = 0) (hno : ¬ Is l r) :
    Calls Tryd.prog 19 #[.agg #[.slice q n cap], .agg #[.int .i64 r.adr, .int .i64 r.len]] w fun e w' => e = .returned (.tuple #[.agg #[.slice q n cap], .int .i64 5]) ∧ Below w.heap.size w w' := by
  have PX := Lib.hid (fun W => rprefix_any r W _ rfl)
  unfold Cidr.val at PX
  have LA := laidP_any w q n cap r
  obtain ⟨T, hT⟩ : ∃ T, T = (((w.alloc (.cells #[.slice q n cap] 47)).alloc (.cells #[.int .i64 r.adr, .int .i64 r.len] 36)).alloc (.cells #[.slice none 0 0] 47)) := ⟨_, rfl⟩
  rw [← hT] at LA
  have HL := Lib.hid (fun W h => LA.on (W := W) h)
  have hTs := LA.size
  rw [hcode] at PX
  have AT := Lib.hid (fun W (h : CI layR W q cap l) R hR => rat_any q cap n l r W hn h _ rfl R hR)
  have HC := Lib.hid (fun W (hb : Below w.heap.size w W) => hc.below hb)
  have HAT := Lib.hid (fun W h => AT.out W h false ⟨fun h => by simp at h, fun h => absurd h hno⟩)
  clear LA AT hn hc hcode hno
  go_enter Tryd.func19, Tryd.ntmps19
  go_wp2_with fail
  rw [← hT]
  clear hT
  refine (PX.out _).mono ?_; rintro e w1 ⟨rfl, hg1⟩
  have hB1 : Below T.heap.size T w1 := hg1.below
  obtain ⟨c1, ⟨hbx, b10, b11⟩, d1, f1, hW1⟩ := HL.out w1 hB1
  clear PX hg1
  go_wp2_with fail
  refine (HAT.out _ (HC.out _ hW1)).mono ?_; rintro e w2 ⟨rfl, hg2⟩
  have hB2 : Below T.heap.size T w2 := hB1.trans (hg2.below.mono hB1.size)
  obtain ⟨c2, ⟨hbx2, b20, b21⟩, d2, f2, hW2⟩ := HL.out w2 hB2
  clear hg2
  go_wp2_with fail
  refine bodyPost_ret (results_ct rfl Tryd.isAgg47 Tryd.sizeOf47 _ _ _ rfl _ (World.cell?_setCell_same' _ _ _ (by rw [d2]; rfl))) rfl ?_
  exact ⟨rfl, below_res hW2⟩

set_option maxHeartbeats 2000000 in
theorem rdrop_ok (q : Option Addr) (cap n : Nat) (l : List Rt) (r : Pfx) (w : World) (hn : n = l.length) (hc : CI layR w q cap l) (hn32 : n ≤ 32) (hcode : code r = 0) (hyes : Is l r) :
    Calls Tryd.prog 19 #[.agg #[.slice q n cap], .agg #[.int .i64 r.adr, .int .i64 r.len]] w fun e w' => ∃ v, e = .returned (.tuple #[.agg #[v], .int .i64 0]) ∧ OC layR 38 w' w.heap.size v (dropR l r) ∧ Below w.heap.size w w' := by
  have PX := Lib.hid (fun W => rprefix_any r W _ rfl)
  unfold Cidr.val at PX
  have LA := laidP_any w q n cap r
  obtain ⟨T, hT⟩ : ∃ T, T = (((w.alloc (.cells #[.slice q n cap] 47)).alloc (.cells #[.int .i64 r.adr, .int .i64 r.len] 36)).alloc (.cells #[.slice none 0 0] 47)) := ⟨_, rfl⟩
  rw [← hT] at LA
  have HL := Lib.hid (fun W h => LA.on (W := W) h)
  have hTs := LA.size
  rw [hcode] at PX
  have AT := Lib.hid (fun W (h : CI layR W q cap l) R hR => rat_any q cap n l r W hn h _ rfl R hR)
  have HC := Lib.hid (fun W (hb : Below w.heap.size w W) => hc.below hb)
  have HAT := Lib.hid (fun W h => AT.out W h true ⟨fun _ => hyes, fun _ => rfl⟩)
  have hpl : pos l r + 1 ≤ n := by
    obtain ⟨s, hs, _⟩ := hyes
    rcases Nat.lt_or_ge (pos l r) l.length with h1 | h1
    · omega
    · rw [List.getElem?_eq_none h1] at hs; cases hs
  have HSR := Lib.hid (show dropR l r = l.take (pos l r) ++ l.drop (pos l r + 1) from rfl)
  obtain ⟨i, hi⟩ : ∃ i, pos l r = i := ⟨_, rfl⟩
  rw [hi] at hpl HSR HAT
  obtain ⟨ph, ch, hs1, hs2, hs3⟩ := head_of hc hn i (by omega)
  obtain ⟨pt, ct, ht1, ht2, ht3⟩ := tail_of hc hn (i + 1) (by omega) ((i : Int) + 1) (by omega) (n - (i + 1)) rfl
  have H3 := Lib.hid hs3
  have T3 := Lib.hid ht3
  have hlh := Lib.hid (show (l.take i).length = i from by rw [List.length_take]; omega)
  have hlt := Lib.hid (show (l.drop (i + 1)).length = n - (i + 1) from by rw [List.length_drop, hn])
  generalize l.take i = Lh at *
  generalize l.drop (i + 1) = Lt' at *
  obtain ⟨m, hm⟩ : ∃ m, n - (i + 1) = m := ⟨_, rfl⟩
  have hm32 : m ≤ 32 := by omega
  rw [hm] at ht1 ht2 hlt
  have q1 : IntKind.i64.wrap ((i : Int) + 1) = (i : Int) + 1 := by rw [IntKind.wrap_i64]; omega
  clear LA AT hn hc hcode hyes hi hs3 ht3 hm
  go_enter Tryd.func19, Tryd.ntmps19
  go_wp2_with fail
  rw [← hT]
  clear hT
  refine (PX.out _).mono ?_; rintro e w1 ⟨rfl, hg1⟩
  have hB1 : Below T.heap.size T w1 := hg1.below
  obtain ⟨c1, ⟨hbx, b10, b11⟩, d1, f1, hW1⟩ := HL.out w1 hB1
  clear PX hg1
  go_wp2_with fail
  refine (HAT.out _ (HC.out _ hW1)).mono ?_; rintro e w2 ⟨rfl, hg2⟩
  have hB2 : Below T.heap.size T w2 := hB1.trans (hg2.below.mono hB1.size)
  have hs2' := hB2.size
  have HL2 := HL.out w2 hB2
  have c2 := HL2.1
  have h3 := H3.out w2 HL2.2.2.2.2
  clear hg2 c1 b10 b11 d1 f1 HL2
  go_wp2_with (first
    | (at_builtin
       refine wp_appC tyR rfl (.tmp 25) (.tmp 29) rfl T.heap.size _ [] ph ch i Lh rfl (OC.nil _ _ _ _) rfl hlh.out.symm h3 (by show 0 + Lh.length ≤ 1000000000; rw [hlh.out]; omega) hs2' ?_
       intro v3 w3 hown3 hg3 hat3
       have hB3 : Below T.heap.size T w3 := below_appC hB2 (OC.nil layR 38 w2 T.heap.size) hg3 hs2'
       have HL3 := HL.out w3 hB3
       have c3 := HL3.1
       have h4 := T3.out w3 HL3.2.2.2.2
       have hs3' := hB3.size
       rw [List.nil_append] at hown3
       have HO3 := Lib.hid hown3
       clear hat3 hg3 hown3 HL3)
    | (at_builtin
       refine wp_appC tyR rfl (.tmp 31) (.tmp 36) rfl T.heap.size _ Lh pt ct m Lt' rfl HO3.out rfl hlt.out.symm h4 (by rw [hlh.out, hlt.out]; omega) hs3' ?_
       intro v5 w5 hown5 hg5 hat5
       have hB5 : Below T.heap.size T w5 := below_appC hB3 HO3.out hg5 hs3'
       have HL5 := HL.out w5 hB5
       have d5 := HL5.2.2.1
       have f5 := HL5.2.2.2.1
       have hW5 := HL5.2.2.2.2
       have hlt5 := hown5.lt
       rw [← HSR.out] at hown5
       obtain ⟨p5, k5, hv5, _⟩ := hown5.form
       subst hv5
       have HO5 := Lib.hid hown5
       have HLT := Lib.hid hlt5
       clear hat5 hg5 hown5 HL5 hlt5))
  refine bodyPost_ret (results_ct rfl Tryd.isAgg47 Tryd.sizeOf47 _ _ _ rfl _ (World.cell?_setCell_same' _ _ _ (by rw [d5]; rfl))) rfl ?_
  exact ⟨_, rfl, (OC.more HO5.out (gb_setR w5 (w.heap.size + 1 + 1) 0 _) (.inr (fun e => by have := (HLT.out _ e).1; omega))).mono (by omega), below_res hW5⟩
end Go.Proofs.YtapaglapngbbpaaDoor.Route
