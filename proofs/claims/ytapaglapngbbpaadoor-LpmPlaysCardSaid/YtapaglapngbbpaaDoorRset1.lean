/- Contracts of the document's Set and Drop of routes. No statement is proved here. -/
import Derived.Test.YtapaglapngbbpaaDoorRset
import Derived.Test.YtapaglapngbbpaaDoorRouteCut
namespace Go.Proofs.YtapaglapngbbpaaDoor.Route
open Go.ChangeShapes Go.WideShapes Go.ChangeAt Go.RowKit Go.Sort Go.Proofs.YtapaglapngbbpaaDoor.Kit Go.Proofs.YtapaglapngbbpaaDoor.App Go.Proofs.YtapaglapngbbpaaDoor.Cells Go.Proofs.YtapaglapngbbpaaDoor.Cidr Go.Proofs.YtapaglapngbbpaaDoor.CidrMath Go.Proofs.YtapaglapngbbpaaDoor.RouteMath
set_option linter.unusedVariables false
set_option maxRecDepth 20000

/-- How Set begins: the table's value, the route, the result's cell. -/
structure Laid (w T : World) (q : Option Addr) (n cap : Nat) (r : Rt) : Prop where
  below : Below w.heap.size w T
  size : T.heap.size = w.heap.size + 3
  tab : T.cell? ⟨w.heap.size, 0, none⟩ = some (.slice q n cap)
  box : BoxR T (w.heap.size + 1) r
  res : T.cell? ⟨w.heap.size + 1 + 1, 0, none⟩ = some (.slice none 0 0)
  fz : T.frozen? ⟨w.heap.size + 1 + 1, 0, none⟩ = false
theorem laid_any (w : World) (q : Option Addr) (n cap : Nat) (r : Rt) : Laid w (((w.alloc (.cells #[.slice q n cap] 47)).alloc (.cells #[.int .i64 r.adr, .int .i64 r.len, .int .i64 r.hop] 38)).alloc (.cells #[.slice none 0 0] 47)) q n cap r := by
  refine ⟨balloc (balloc (balloc (brefl w) _) _) _, by simp, ?_, ?_, ?_, ?_⟩
  · exact ((balloc (balloc (brefl _) _) _).cell (p := ⟨w.heap.size, 0, none⟩) (by simp)).trans (new_slice w q n cap _)
  · have h := BoxR.new (w.alloc (.cells #[.slice q n cap] 47)) r 38
    have h2 := h.below (balloc (brefl _) (.cells #[.slice none 0 0] 47)) h.1
    simpa using h2
  · go_simp
  · go_simp
theorem Laid.on {w T W : World} {q : Option Addr} {n cap : Nat} {r : Rt} (h : Laid w T q n cap r) (hb : Below T.heap.size T W) :
    W.cell? ⟨w.heap.size, 0, none⟩ = some (.slice q n cap) ∧ BoxR W (w.heap.size + 1) r ∧ W.cell? ⟨w.heap.size + 1 + 1, 0, none⟩ = some (.slice none 0 0) ∧ W.frozen? ⟨w.heap.size + 1 + 1, 0, none⟩ = false ∧ Below w.heap.size w W := by
  have hs := h.size
  refine ⟨(hb.cell (p := ⟨w.heap.size, 0, none⟩) (by show w.heap.size < _; omega)).trans h.tab, h.box.below hb (by omega), (hb.cell (p := ⟨w.heap.size + 1 + 1, 0, none⟩) (by show w.heap.size + 1 + 1 < _; omega)).trans h.res, ?_, h.below.trans (hb.mono (by omega))⟩
  have e : W.frozen? ⟨w.heap.size + 1 + 1, 0, none⟩ = T.frozen? ⟨w.heap.size + 1 + 1, 0, none⟩ := by unfold World.frozen?; rw [hb.block (w.heap.size + 1 + 1) (by omega)]
  rw [e]; exact h.fz
theorem gb_setR (W : World) (b o : Nat) (v : Value) : W.grownBy (W.setCell ⟨b, o, none⟩ v) (some b) :=
  ⟨rfl, rfl, rfl, by simp, fun k hk hne => by
    have hb : ¬ b = k := fun e => hne (by rw [e])
    unfold World.setCell
    simp only
    rw [Array.getElem?_modify, if_neg hb]⟩
theorem below_res {w W : World} {v : Value} (h : Below w.heap.size w W) : Below w.heap.size w (W.setCell ⟨w.heap.size + 1 + 1, 0, none⟩ v) :=
  h.trans ⟨rfl, rfl, rfl, by simp, fun k hk => by
    have hne : ¬ w.heap.size + 1 + 1 = k := by omega
    unfold World.setCell
    simp only
    rw [Array.getElem?_modify, if_neg hne]⟩

set_option maxHeartbeats 2000000 in
theorem rset_hop (q : Option Addr) (cap n : Nat) (l : List Rt) (r : Rt) (w : World) (hn : n = l.length) (hc : CI layR w q cap l) (hn32 : n ≤ 32) (hcode : code (key r) = 0) (hh : ¬ (0 ≤ r.hop ∧ r.hop ≤ 9)) :
    Calls Tryd.prog 18 #[.agg #[.slice q n cap], .agg #[.int .i64 r.adr, .int .i64 r.len, .int .i64 r.hop]] w fun e w' => e = .returned (.tuple #[.agg #[.slice q n cap], .int .i64 1]) ∧ Below w.heap.size w w' := by
  have PX := Lib.hid (fun W => rprefix_any ⟨r.adr, r.len⟩ W 0 hcode.symm)
  unfold Cidr.val at PX
  simp only at PX
  have LA := laid_any w q n cap r
  obtain ⟨T, hT⟩ : ∃ T, T = (((w.alloc (.cells #[.slice q n cap] 47)).alloc (.cells #[.int .i64 r.adr, .int .i64 r.len, .int .i64 r.hop] 38)).alloc (.cells #[.slice none 0 0] 47)) := ⟨_, rfl⟩
  rw [← hT] at LA
  have HL := Lib.hid (fun W h => LA.on (W := W) h)
  have hTs := LA.size
  have IN := Lib.hid (fun W => rin r.hop 0 9 W false (by
    by_cases h : 0 ≤ r.hop
    · rw [decide_eq_true h, decide_eq_false (show ¬ r.hop ≤ 9 by omega)]; rfl
    · rw [decide_eq_false h]; rfl))
  clear LA hn hc hcode hh
  go_enter Tryd.func18, Tryd.ntmps18
  go_wp2_with fail
  rw [← hT]
  clear hT
  refine (PX.out _).mono ?_; rintro e w1 ⟨rfl, hg1⟩
  have hB1 : Below T.heap.size T w1 := hg1.below
  obtain ⟨c1, ⟨hbx, b10, b11, b12⟩, d1, f1, hW1⟩ := HL.out w1 hB1
  clear PX hg1
  go_wp2_with fail
  refine (IN.out _).mono ?_; rintro e w1' ⟨rfl, rfl⟩
  go_wp2_with fail
  refine bodyPost_ret (results_ct rfl Tryd.isAgg47 Tryd.sizeOf47 _ _ _ rfl _ (World.cell?_setCell_same' _ _ _ (by rw [d1]; rfl))) rfl ?_
  exact ⟨rfl, below_res hW1⟩

set_option maxHeartbeats 2000000 in
theorem rset_full (q : Option Addr) (cap n : Nat) (l : List Rt) (r : Rt) (w : World) (hn : n = l.length) (hc : CI layR w q cap l) (hn32 : n ≤ 32) (hcode : code (key r) = 0) (hh : 0 ≤ r.hop ∧ r.hop ≤ 9) (hno : ¬ Is l (key r)) (h32 : 32 ≤ n) :
    Calls Tryd.prog 18 #[.agg #[.slice q n cap], .agg #[.int .i64 r.adr, .int .i64 r.len, .int .i64 r.hop]] w fun e w' => e = .returned (.tuple #[.agg #[.slice q n cap], .int .i64 4]) ∧ Below w.heap.size w w' := by
  have PX := Lib.hid (fun W => rprefix_any ⟨r.adr, r.len⟩ W 0 hcode.symm)
  unfold Cidr.val at PX
  simp only at PX
  have LA := laid_any w q n cap r
  obtain ⟨T, hT⟩ : ∃ T, T = (((w.alloc (.cells #[.slice q n cap] 47)).alloc (.cells #[.int .i64 r.adr, .int .i64 r.len, .int .i64 r.hop] 38)).alloc (.cells #[.slice none 0 0] 47)) := ⟨_, rfl⟩
  rw [← hT] at LA
  have HL := Lib.hid (fun W h => LA.on (W := W) h)
  have hTs := LA.size
  have IN := Lib.hid (fun W => rin r.hop 0 9 W true (by rw [decide_eq_true hh.1, decide_eq_true hh.2]; rfl))
  have AT := Lib.hid (fun W (h : CI layR W q cap l) R hR => rat_any q cap n l (key r) W hn h _ rfl R hR)
  unfold key at AT
  simp only at AT
  have HC := Lib.hid (fun W (hb : Below w.heap.size w W) => hc.below hb)
  have t32 : decide ((n : Int) ≥ 32) = true := decide_eq_true (by omega)
  have t32' : decide (32 ≤ (n : Int)) = true := decide_eq_true (by omega)
  have HAT := Lib.hid (fun W h => AT.out W h false ⟨fun h => by simp at h, fun h => absurd h hno⟩)
  clear LA AT hn hc hcode hh hno
  go_enter Tryd.func18, Tryd.ntmps18
  go_wp2_with fail
  rw [← hT]
  clear hT
  refine (PX.out _).mono ?_; rintro e w1 ⟨rfl, hg1⟩
  have hB1 : Below T.heap.size T w1 := hg1.below
  obtain ⟨c1, ⟨hbx, b10, b11, b12⟩, d1, f1, hW1⟩ := HL.out w1 hB1
  clear PX hg1
  go_wp2_with fail
  refine (IN.out _).mono ?_; rintro e w1' ⟨rfl, rfl⟩
  go_wp2_with fail
  refine (HAT.out _ (HC.out _ hW1)).mono ?_; rintro e w2 ⟨rfl, hg2⟩
  have hB2 : Below T.heap.size T w2 := hB1.trans (hg2.below.mono hB1.size)
  obtain ⟨c2, ⟨hbx2, b20, b21, b22⟩, d2, f2, hW2⟩ := HL.out w2 hB2
  clear hg2
  go_wp2_with fail
  refine bodyPost_ret (results_ct rfl Tryd.isAgg47 Tryd.sizeOf47 _ _ _ rfl _ (World.cell?_setCell_same' _ _ _ (by rw [d2]; rfl))) rfl ?_
  exact ⟨rfl, below_res hW2⟩

set_option maxHeartbeats 2000000 in
theorem rset_new (q : Option Addr) (cap n : Nat) (l : List Rt) (r : Rt) (w : World) (hn : n = l.length) (hc : CI layR w q cap l) (hn32 : n ≤ 32) (hcode : code (key r) = 0) (hh : 0 ≤ r.hop ∧ r.hop ≤ 9) (hno : ¬ Is l (key r)) (h32 : n < 32) :
    Calls Tryd.prog 18 #[.agg #[.slice q n cap], .agg #[.int .i64 r.adr, .int .i64 r.len, .int .i64 r.hop]] w fun e w' => ∃ v, e = .returned (.tuple #[.agg #[v], .int .i64 0]) ∧ OC layR 38 w' w.heap.size v (setR l r false) ∧ Below w.heap.size w w' := by
  have PX := Lib.hid (fun W => rprefix_any ⟨r.adr, r.len⟩ W 0 hcode.symm)
  unfold Cidr.val at PX
  simp only at PX
  have LA := laid_any w q n cap r
  obtain ⟨T, hT⟩ : ∃ T, T = (((w.alloc (.cells #[.slice q n cap] 47)).alloc (.cells #[.int .i64 r.adr, .int .i64 r.len, .int .i64 r.hop] 38)).alloc (.cells #[.slice none 0 0] 47)) := ⟨_, rfl⟩
  rw [← hT] at LA
  have HL := Lib.hid (fun W h => LA.on (W := W) h)
  have hTs := LA.size
  have IN := Lib.hid (fun W => rin r.hop 0 9 W true (by rw [decide_eq_true hh.1, decide_eq_true hh.2]; rfl))
  have AT := Lib.hid (fun W (h : CI layR W q cap l) R hR => rat_any q cap n l (key r) W hn h _ rfl R hR)
  unfold key at AT
  simp only at AT
  have HC := Lib.hid (fun W (hb : Below w.heap.size w W) => hc.below hb)
  have t32 : decide ((n : Int) ≥ 32) = false := decide_eq_false (by omega)
  have t32' : decide (32 ≤ (n : Int)) = false := decide_eq_false (by omega)
  have HAT := Lib.hid (fun W h => AT.out W h false ⟨fun h => by simp at h, fun h => absurd h hno⟩)
  have hpl : pos l (key r) ≤ n := by rw [hn]; exact pos_le _ _
  have HSR := Lib.hid (show setR l r false = l.take (pos l (key r)) ++ [r] ++ l.drop (pos l (key r) + 0) from by unfold setR; simp)
  obtain ⟨i, hi⟩ : ∃ i, pos l (key r) = i := ⟨_, rfl⟩
  have hi' : pos l ⟨r.adr, r.len⟩ = i := hi
  rw [hi'] at HAT
  rw [hi] at hpl HSR
  obtain ⟨ph, ch, hs1, hs2, hs3⟩ := head_of hc hn i (by omega)
  obtain ⟨pt, ct, ht1, ht2, ht3⟩ := tail_of hc hn (i + 0) (by omega) (i : Int) (by omega) (n - (i + 0)) rfl
  have H3 := Lib.hid hs3
  have T3 := Lib.hid ht3
  have hlh := Lib.hid (show (l.take i).length = i from by rw [List.length_take]; omega)
  have hlt := Lib.hid (show (l.drop (i + 0)).length = n - (i + 0) from by rw [List.length_drop, hn])
  generalize l.take i = Lh at *
  generalize l.drop (i + 0) = Lt' at *
  obtain ⟨m, hm⟩ : ∃ m, n - (i + 0) = m := ⟨_, rfl⟩
  have hm32 : m ≤ 32 := by omega
  rw [hm] at ht1 ht2 hlt
  have q1 : IntKind.i64.wrap ((i : Int) + 1) = (i : Int) + 1 := by rw [IntKind.wrap_i64]; omega
  clear LA AT hn hc hcode hh hno hi hi' hs3 ht3 hm
  go_enter Tryd.func18, Tryd.ntmps18
  go_wp2_with fail
  rw [← hT]
  clear hT
  refine (PX.out _).mono ?_; rintro e w1 ⟨rfl, hg1⟩
  have hB1 : Below T.heap.size T w1 := hg1.below
  obtain ⟨c1, ⟨hbx, b10, b11, b12⟩, d1, f1, hW1⟩ := HL.out w1 hB1
  clear PX hg1
  go_wp2_with fail
  refine (IN.out _).mono ?_; rintro e w1' ⟨rfl, rfl⟩
  go_wp2_with fail
  refine (HAT.out _ (HC.out _ hW1)).mono ?_; rintro e w2 ⟨rfl, hg2⟩
  have hB2 : Below T.heap.size T w2 := hB1.trans (hg2.below.mono hB1.size)
  have hs2' := hB2.size
  have HL2 := HL.out w2 hB2
  have c2 := HL2.1
  have h3 := H3.out w2 HL2.2.2.2.2
  clear hg2 c1 b10 b11 b12 d1 f1 HL2
  go_wp2_with (first
    | (at_builtin
       refine wp_appC tyR rfl (.tmp 38) (.tmp 42) rfl T.heap.size _ [] ph ch i Lh rfl (OC.nil _ _ _ _) rfl hlh.out.symm h3 (by show 0 + Lh.length ≤ 1000000000; rw [hlh.out]; omega) hs2' ?_
       intro v3 w3 hown3 hg3 hat3
       have hB3 : Below T.heap.size T w3 := below_appC hB2 (OC.nil layR 38 w2 T.heap.size) hg3 hs2'
       have HL3 := HL.out w3 hB3
       have bx0 := HL3.2.1.2.1
       have bx1 := HL3.2.1.2.2.1
       have bx2 := HL3.2.1.2.2.2
       have hs3' := hB3.size
       rw [List.nil_append] at hown3
       have HO3 := Lib.hid hown3
       clear hat3 hg3 hown3 HL3)
    | (at_builtin
       refine wp_appC tyR rfl (.tmp 44) (.tmp 46) rfl T.heap.size _ Lh (some ⟨w3.heap.size, 0, none⟩) 1 1 [r] rfl (HO3.out.alloc _) rfl rfl (CI.one layR w3 r _) (by rw [hlh.out, List.length_singleton]; omega) (Nat.le_trans hs3' (by simp)) ?_
       intro v4 w4 hown4 hg4 hat4
       have hB4 : Below T.heap.size T w4 := below_oneC hB3 hs3' _ HO3.out hg4
       have HL4 := HL.out w4 hB4
       have c4 := HL4.1
       have h4 := T3.out w4 HL4.2.2.2.2
       have hs4' := hB4.size
       have HO4 := Lib.hid hown4
       clear hat4 hg4 hown4 HL4)
    | (at_builtin
       refine wp_appC tyR rfl (.tmp 51) (.tmp 55) rfl T.heap.size _ (Lh ++ [r]) pt ct m Lt' rfl HO4.out rfl hlt.out.symm h4 (by rw [List.length_append, hlh.out, hlt.out, List.length_singleton]; omega) hs4' ?_
       intro v5 w5 hown5 hg5 hat5
       have hB5 : Below T.heap.size T w5 := below_appC hB4 HO4.out hg5 hs4'
       have HL5 := HL.out w5 hB5
       have d5 := HL5.2.2.1
       have f5 := HL5.2.2.2.1
       have hW5 := HL5.2.2.2.2
       have hlt5 := hown5.lt
       rw [← HSR.out] at hown5
       obtain ⟨p5, k5, hv5, _⟩ := hown5.form
       subst hv5
       have HO5 := Lib.hid hown5
       have HLT := Lib.hid hlt5
       clear hat5 hg5 hown5 HL5 hlt5))
  refine bodyPost_ret (results_ct rfl Tryd.isAgg47 Tryd.sizeOf47 _ _ _ rfl _ (World.cell?_setCell_same' _ _ _ (by rw [d5]; rfl))) rfl ?_
  exact ⟨_, rfl, (OC.more HO5.out (gb_setR w5 (w.heap.size + 1 + 1) 0 _) (.inr (fun e => by have := (HLT.out _ e).1; omega))).mono (by omega), below_res hW5⟩

set_option maxHeartbeats 2000000 in
theorem rset_old (q : Option Addr) (cap n : Nat) (l : List Rt) (r : Rt) (w : World) (hn : n = l.length) (hc : CI layR w q cap l) (hn32 : n ≤ 32) (hcode : code (key r) = 0) (hh : 0 ≤ r.hop ∧ r.hop ≤ 9) (hyes : Is l (key r)) :
    Calls Tryd.prog 18 #[.agg #[.slice q n cap], .agg #[.int .i64 r.adr, .int .i64 r.len, .int .i64 r.hop]] w fun e w' => ∃ v, e = .returned (.tuple #[.agg #[v], .int .i64 0]) ∧ OC layR 38 w' w.heap.size v (setR l r true) ∧ Below w.heap.size w w' := by
  have PX := Lib.hid (fun W => rprefix_any ⟨r.adr, r.len⟩ W 0 hcode.symm)
  unfold Cidr.val at PX
  simp only at PX
  have LA := laid_any w q n cap r
  obtain ⟨T, hT⟩ : ∃ T, T = (((w.alloc (.cells #[.slice q n cap] 47)).alloc (.cells #[.int .i64 r.adr, .int .i64 r.len, .int .i64 r.hop] 38)).alloc (.cells #[.slice none 0 0] 47)) := ⟨_, rfl⟩
  rw [← hT] at LA
  have HL := Lib.hid (fun W h => LA.on (W := W) h)
  have hTs := LA.size
  have IN := Lib.hid (fun W => rin r.hop 0 9 W true (by rw [decide_eq_true hh.1, decide_eq_true hh.2]; rfl))
  have AT := Lib.hid (fun W (h : CI layR W q cap l) R hR => rat_any q cap n l (key r) W hn h _ rfl R hR)
  unfold key at AT
  simp only at AT
  have HC := Lib.hid (fun W (hb : Below w.heap.size w W) => hc.below hb)
  have HAT := Lib.hid (fun W h => AT.out W h true ⟨fun _ => hyes, fun _ => rfl⟩)
  have hpl : pos l (key r) + 1 ≤ n := by
    obtain ⟨s, hs, _⟩ := hyes
    rcases Nat.lt_or_ge (pos l (key r)) l.length with h1 | h1
    · omega
    · rw [List.getElem?_eq_none h1] at hs; cases hs
  have HSR := Lib.hid (show setR l r true = l.take (pos l (key r)) ++ [r] ++ l.drop (pos l (key r) + 1) from by unfold setR; simp)
  obtain ⟨i, hi⟩ : ∃ i, pos l (key r) = i := ⟨_, rfl⟩
  have hi' : pos l ⟨r.adr, r.len⟩ = i := hi
  rw [hi'] at HAT
  rw [hi] at hpl HSR
  obtain ⟨ph, ch, hs1, hs2, hs3⟩ := head_of hc hn i (by omega)
  obtain ⟨pt, ct, ht1, ht2, ht3⟩ := tail_of hc hn (i + 1) (by omega) ((i : Int) + 1) (by omega) (n - (i + 1)) rfl
  have H3 := Lib.hid hs3
  have T3 := Lib.hid ht3
  have hlh := Lib.hid (show (l.take i).length = i from by rw [List.length_take]; omega)
  have hlt := Lib.hid (show (l.drop (i + 1)).length = n - (i + 1) from by rw [List.length_drop, hn])
  generalize l.take i = Lh at *
  generalize l.drop (i + 1) = Lt' at *
  obtain ⟨m, hm⟩ : ∃ m, n - (i + 1) = m := ⟨_, rfl⟩
  have hm32 : m ≤ 32 := by omega
  rw [hm] at ht1 ht2 hlt
  have q1 : IntKind.i64.wrap ((i : Int) + 1) = (i : Int) + 1 := by rw [IntKind.wrap_i64]; omega
  clear LA AT hn hc hcode hh hyes hi hi' hs3 ht3 hm
  go_enter Tryd.func18, Tryd.ntmps18
  go_wp2_with fail
  rw [← hT]
  clear hT
  refine (PX.out _).mono ?_; rintro e w1 ⟨rfl, hg1⟩
  have hB1 : Below T.heap.size T w1 := hg1.below
  obtain ⟨c1, ⟨hbx, b10, b11, b12⟩, d1, f1, hW1⟩ := HL.out w1 hB1
  clear PX hg1
  go_wp2_with fail
  refine (IN.out _).mono ?_; rintro e w1' ⟨rfl, rfl⟩
  go_wp2_with fail
  refine (HAT.out _ (HC.out _ hW1)).mono ?_; rintro e w2 ⟨rfl, hg2⟩
  have hB2 : Below T.heap.size T w2 := hB1.trans (hg2.below.mono hB1.size)
  have hs2' := hB2.size
  have HL2 := HL.out w2 hB2
  have c2 := HL2.1
  have h3 := H3.out w2 HL2.2.2.2.2
  clear hg2 c1 b10 b11 b12 d1 f1 HL2
  go_wp2_with (first
    | (at_builtin
       refine wp_appC tyR rfl (.tmp 38) (.tmp 42) rfl T.heap.size _ [] ph ch i Lh rfl (OC.nil _ _ _ _) rfl hlh.out.symm h3 (by show 0 + Lh.length ≤ 1000000000; rw [hlh.out]; omega) hs2' ?_
       intro v3 w3 hown3 hg3 hat3
       have hB3 : Below T.heap.size T w3 := below_appC hB2 (OC.nil layR 38 w2 T.heap.size) hg3 hs2'
       have HL3 := HL.out w3 hB3
       have bx0 := HL3.2.1.2.1
       have bx1 := HL3.2.1.2.2.1
       have bx2 := HL3.2.1.2.2.2
       have hs3' := hB3.size
       rw [List.nil_append] at hown3
       have HO3 := Lib.hid hown3
       clear hat3 hg3 hown3 HL3)
    | (at_builtin
       refine wp_appC tyR rfl (.tmp 44) (.tmp 46) rfl T.heap.size _ Lh (some ⟨w3.heap.size, 0, none⟩) 1 1 [r] rfl (HO3.out.alloc _) rfl rfl (CI.one layR w3 r _) (by rw [hlh.out, List.length_singleton]; omega) (Nat.le_trans hs3' (by simp)) ?_
       intro v4 w4 hown4 hg4 hat4
       have hB4 : Below T.heap.size T w4 := below_oneC hB3 hs3' _ HO3.out hg4
       have HL4 := HL.out w4 hB4
       have c4 := HL4.1
       have h4 := T3.out w4 HL4.2.2.2.2
       have hs4' := hB4.size
       have HO4 := Lib.hid hown4
       clear hat4 hg4 hown4 HL4)
    | (at_builtin
       refine wp_appC tyR rfl (.tmp 51) (.tmp 55) rfl T.heap.size _ (Lh ++ [r]) pt ct m Lt' rfl HO4.out rfl hlt.out.symm h4 (by rw [List.length_append, hlh.out, hlt.out, List.length_singleton]; omega) hs4' ?_
       intro v5 w5 hown5 hg5 hat5
       have hB5 : Below T.heap.size T w5 := below_appC hB4 HO4.out hg5 hs4'
       have HL5 := HL.out w5 hB5
       have d5 := HL5.2.2.1
       have f5 := HL5.2.2.2.1
       have hW5 := HL5.2.2.2.2
       have hlt5 := hown5.lt
       rw [← HSR.out] at hown5
       obtain ⟨p5, k5, hv5, _⟩ := hown5.form
       subst hv5
       have HO5 := Lib.hid hown5
       have HLT := Lib.hid hlt5
       clear hat5 hg5 hown5 HL5 hlt5))
  refine bodyPost_ret (results_ct rfl Tryd.isAgg47 Tryd.sizeOf47 _ _ _ rfl _ (World.cell?_setCell_same' _ _ _ (by rw [d5]; rfl))) rfl ?_
  exact ⟨_, rfl, (OC.more HO5.out (gb_setR w5 (w.heap.size + 1 + 1) 0 _) (.inr (fun e => by have := (HLT.out _ e).1; omega))).mono (by omega), below_res hW5⟩
end Go.Proofs.YtapaglapngbbpaaDoor.Route
