/- Package spf: From. No statement is proved here. -/
import Derived.Test.YtedhippamfioeaaDoorSpf5
import Derived.Test.YtedhippamfioeaaDoorSub
import Derived.Deep.RegionLaw
import Derived.Deep.RegionWith
namespace Go.Proofs.YtedhippamfioeaaDoor.Spf
open Go.ChangeShapes Go.WideShapes Go.ChangeAt Go.RowKit Go.Proofs.YtedhippamfioeaaDoor.Kit Go.Proofs.YtedhippamfioeaaDoor.App Go.Proofs.YtedhippamfioeaaDoor.Cells Go.Proofs.YtedhippamfioeaaDoor.Err Go.Proofs.YtedhippamfioeaaDoor.Vector
set_option linter.unusedVariables false
set_option maxRecDepth 20000
set_option maxHeartbeats 1000000

/-- A slice of numbers, of nothing too. -/
def Rd (w : World) (v : Value) (l : List Int) : Prop := ∃ p c, v = .slice p l.length c ∧ Ints w p c l
theorem Rd.below {w w' : World} {v : Value} {l : List Int} (h : Rd w v l) (hb : Below w.heap.size w w') : Rd w' v l := by
  obtain ⟨p, c, h1, h2⟩ := h
  exact ⟨p, c, h1, h2.below hb⟩
theorem Rd.none (w : World) : Rd w (.slice .none 0 0) [] := ⟨.none, 0, rfl, ints_none w _ _ _ (by unfold maxLen; omega) rfl⟩
theorem Rd.own {w : World} {base : Nat} {v : Value} {l : List Int} (h : OwnI w base v l) : Rd w v l := by
  obtain ⟨p, c, h1, h2⟩ := h.form
  exact ⟨p, c, h1, h2⟩
/-- All that From answers. -/
def fars (n : Int) (ls : List Lk) (s : Int) (c : Int) : List Int := if c = 0 then rw1 n.toNat (ds ls s.toNat) else []
noncomputable def hops (n : Int) (ls : List Lk) (s : Int) (c : Int) : List Int := if c = 0 then rw1 n.toNat (hop ls s.toNat) else []
theorem outs_one {n x : Int} (h : outs n [x] = 0) : 0 ≤ x ∧ x < n := by
  unfold outs outs at h
  split at h
  · cases h
  · omega
theorem wf_far {x : Int} (h : 0 ≤ x ∧ x ≤ 1000) : (Lit.int .i64 x).wf = true := by
  simp [Lit.wf, IntKind.min, IntKind.max, IntKind.signed, IntKind.bits]; omega
theorem wf_hop {x : Int} (h : -1 ≤ x ∧ x ≤ 7) : (Lit.int .i64 x).wf = true := by
  simp [Lit.wf, IntKind.min, IntKind.max, IntKind.signed, IntKind.bits]; omega
/-- A part of the cells as numbers. -/
theorem ints_part {w : World} {g o n : Nat} {T : TypeId} {V : List Value} (h : Blk T w g V) (f : Nat → Int) (hv : ∀ k, k < n → V[o + k]? = some (.int .i64 (f k))) (hf : ∀ k, k < n → (Lit.int .i64 (f k)).wf = true) (cap : Nat) (hn : n ≤ cap) (hc : cap ≤ maxLen) : Ints w (some ⟨g, o, .none⟩) cap (rw1 n f) :=
  ⟨by rw [rw1_len]; exact hn, hc, fun j => by
    by_cases hj : j < n
    · rw [rw1_get _ _ hj]; exact hf j hj
    · rw [List.getElem?_eq_none (by rw [rw1_len]; omega)]; rfl, fun _ => ⟨g, o, rfl, h.lt, fun j hj => by
    rw [rw1_len] at hj
    rw [rw1_get _ _ hj]
    exact h.cell _ _ (hv j hj)⟩⟩

theorem from_bad (n s : Int) (p : Option Addr) (cap m : Nat) (ls : List Lk) (w : World) (hm : m = ls.length) (hi : CI layL w p cap ls) (hs : (Lit.int .i64 s).wf = true) (c : Int) (hc : wrong n ls [s] = c) (h0 : c ≠ 0) :
    Calls Tryd.prog 24 #[.int .i64 n, .slice p m cap, .int .i64 s] w fun e w' => e = .returned (.tuple #[.slice none 0 0, .slice none 0 0, er c]) ∧ Below w.heap.size w w' := by
  have C := Lib.hid (check_any n p cap m ls (some ⟨w.heap.size, 0, none⟩) 1 1 [s] (w.alloc (.cells #[.int .i64 s] 3)) hm (hi.below (balloc (brefl w) _)) rfl (Ints.one w s hs) c hc)
  have HB := Lib.hid (balloc (brefl w) (.cells #[.int .i64 s] 3))
  rw [er_ne h0] at C ⊢
  clear hm hi hs hc h0
  go_enter Tryd.func24, Tryd.ntmps24
  go_wp2_with fail
  refine C.out.mono ?_; rintro e w1 ⟨rfl, hb⟩
  have HB2 := Lib.hid (bcall HB.out hb)
  clear hb C HB
  go_wp2_with fail
  go_ret3
  exact ⟨rfl, HB2.out⟩
theorem from_own (n s : Nat) (p : Option Addr) (cap m : Nat) (ls : List Lk) (w : World) (hm : m = ls.length) (hi : CI layL w p cap ls) (g : Vector.Good n ls) (hs : s < n) :
    Calls Tryd.prog 24 #[.int .i64 (n : Int), .slice p m cap, .int .i64 (s : Int)] w fun e w' => ∃ u v, e = .returned (.tuple #[u, v, .nilIface]) ∧ OwnI w' w.heap.size u (rw1 n (ds ls s)) ∧ OwnI w' w.heap.size v (rw1 n (hop ls s)) ∧ Below w.heap.size w w' := by
  have hn8 := g.up
  have hws : (Lit.int .i64 (s : Int)).wf = true := by simp [Lit.wf, IntKind.min, IntKind.max, IntKind.signed, IntKind.bits]; omega
  have hwr : wrong n ls [(s : Int)] = 0 := by
    unfold wrong
    rw [if_pos (code_good g)]
    unfold outs outs
    rw [if_neg (by omega)]
  have C := Lib.hid (check_any n p cap m ls (some ⟨w.heap.size, 0, none⟩) 1 1 [(s : Int)] (w.alloc (.cells #[.int .i64 (s : Int)] 3)) hm (hi.below (balloc (brefl w) _)) rfl (Ints.one w s hws) 0 hwr)
  have HB := Lib.hid (balloc (brefl w) (.cells #[.int .i64 (s : Int)] 3))
  have CH := Lib.hid (fun W hW => cheapest_any n p cap m ls W g hm (hi.below hW))
  have SH := Lib.hid (fun W => shortest_any n s ls W (fun i j => zc (co ls i j)) g hs (fun _ _ => rfl))
  have HG := Lib.hid g
  rw [er_0] at C
  clear hm hi hwr hws g
  go_enter Tryd.func24, Tryd.ntmps24
  go_wp2_with fail
  refine C.out.mono ?_; rintro e w1 ⟨rfl, hb⟩
  have HB1 := Lib.hid (bcall HB.out hb)
  clear hb C HB
  go_wp2_with fail
  refine (CH.out _ HB1.out).mono ?_; rintro e w2 ⟨rfl, hb⟩
  have HB2 := Lib.hid (bcall HB1.out hb)
  clear hb CH HB1
  generalize hN : (net fun i j => zc (co ls i j)).toArray = N at SH ⊢
  clear hN
  go_wp2_with fail
  refine (SH.out _).mono ?_; rintro e w3 ⟨rfl, hb⟩
  have HB3 := Lib.hid (bcall HB2.out hb)
  clear hb SH HB2
  have HR0 := Lib.hid (show Blk 71 (w3.alloc (.cells (pth fun _ => 1).toArray 71)) w3.heap.size (pth fun _ => 1) from Blk.new w3 _ _)
  have HB0 := Lib.hid (show Below w.heap.size w (w3.alloc (.cells (pth fun _ => 1).toArray 71)) from HB3.out.trans ((balloc (brefl w3) _).mono HB3.out.size))
  rw [pth_lit] at HR0 HB0
  simp only []
  go_at_K
  go_step
  go_step
  rename_i K2 hK2
  go_step
  generalize w3.alloc _ = w4 at HR0 HB0 ⊢
  have HF := Lib.hid (show w.heap.size ≤ w3.heap.size from HB3.out.size)
  generalize w3.heap.size = F at HR0 HF ⊢
  refine hK2 _ _ ?_
  have hres := HR0.out
  refine wpList_store_mid rfl 71 _ _ rfl F 0 (pth (Kf ls s)).toArray rfl rfl (fun j hj => ⟨?_, by rw [Nat.zero_add]; exact hres.fz j⟩) (by rw [List.size_toArray]; exact size16 _) (one_cell _) ?_
  · rw [List.size_toArray] at hj
    unfold pth at hj
    rw [ar_len] at hj
    rw [Nat.zero_add, hres.cell j _ (ar_get _ hj)]
    rfl
  have HR4 := Lib.hid (blk_cells hres (pth (Kf ls s)) (by unfold pth; rw [ar_len, ar_len]))
  have HB4 := Lib.hid (show Below w.heap.size w (w4.setCells F 0 (pth (Kf ls s))) from gbelow HB0.out (Nat.le_refl _) (cells_grown F (pth (Kf ls s)) w4 0) HF.out)
  rw [show (pth (Kf ls s)).toArray.toList = pth (Kf ls s) from rfl]
  generalize w4.setCells F 0 (pth (Kf ls s)) = w5 at HR4 HB4 ⊢
  clear hres HR0 HB0 HB3 hK2
  have I1 := Lib.hid (show Ints w5 (some ⟨F, 0, none⟩) 8 (rw1 n (ds ls s)) from ints_part HR4.out _ (fun k hk => by rw [Nat.zero_add, pth_far _ (by omega), (Kf_far HG.out s k).1]) (fun k hk => wf_far ⟨ds_nat HG.out s k, ds_top HG.out s k⟩) 8 hn8 (by unfold maxLen; omega))
  have I2 := Lib.hid (show Ints w5 (some ⟨F, 8, none⟩) 8 (rw1 n (hop ls s)) from ints_part HR4.out _ (fun k hk => by rw [pth_hop _ (by omega), (Kf_far HG.out s k).2]) (fun k hk => wf_hop (hop_b HG.out s k)) 8 hn8 (by unfold maxLen; omega))
  generalize pth (Kf ls s) = V at *
  have C1 := Lib.hid (clone_some ⟨F, 0, none⟩ n 8 (rw1 n (ds ls s)) w5.drew (by rw [rw1_len]) I1.out (by rw [rw1_len]; omega))
  have C2 := Lib.hid (fun W (hW : Below w5.heap.size w5 W) => clone_some ⟨F, 8, none⟩ n 8 (rw1 n (hop ls s)) W (by rw [rw1_len]) (I2.out.below hW) (by rw [rw1_len]; omega))
  have hn8' : (n : Int) ≤ 8 := by omega
  go_wp2_with fail
  go_region_law (first
    | (go_simp; go_at_call_of 32 (Value.slice (some ⟨F, 0, none⟩) n 8); refine C1.out.mono ?_; rintro e w6 ⟨v6, rfl, ho6, hb6⟩
       have HO6 := Lib.hid ho6
       have HB6 := Lib.hid (show Below w5.heap.size w5 w6 from bcall (bdrewN (brefl w5) 1) hb6)
       clear ho6 hb6)
    | (go_simp; go_at_call_of 32 (Value.slice (some ⟨F, 8, none⟩) n 8); refine (C2.out w6 HB6.out).mono ?_; rintro e w7 ⟨v7, rfl, ho7, hb7⟩
       have HO7 := Lib.hid ho7
       have HB7 := Lib.hid hb7
       clear ho7 hb7))
  all_goals
    go_wp2_with fail
    go_ret3
    exact ⟨_, _, rfl, own_mono (HO6.out.below HB7.out) HB4.out.size, own_mono HO7.out (bcall HB4.out HB6.out).size, bcall (bcall HB4.out HB6.out) HB7.out⟩
theorem from_good (n s : Nat) (p : Option Addr) (cap m : Nat) (ls : List Lk) (w : World) (hm : m = ls.length) (hi : CI layL w p cap ls) (g : Vector.Good n ls) (hs : s < n) :
    Calls Tryd.prog 24 #[.int .i64 (n : Int), .slice p m cap, .int .i64 (s : Int)] w fun e w' => ∃ u v, e = .returned (.tuple #[u, v, .nilIface]) ∧ Rd w' u (rw1 n (ds ls s)) ∧ Rd w' v (rw1 n (hop ls s)) ∧ Below w.heap.size w w' := by
  refine (from_own n s p cap m ls w hm hi g hs).mono ?_
  rintro e w' ⟨u, v, rfl, hu, hv, hb⟩
  exact ⟨u, v, rfl, Rd.own hu, Rd.own hv, hb⟩
theorem wrong_good {n s : Int} {ls : List Lk} (h : wrong n ls [s] = 0) : ∃ (N S : Nat), n = (N : Int) ∧ s = (S : Int) ∧ Vector.Good N ls ∧ S < N := by
  unfold wrong at h
  by_cases h0 : code n ls = 0
  · rw [if_pos h0] at h
    obtain ⟨N, rfl, g⟩ := good_of h0
    have := outs_one h
    exact ⟨N, s.toNat, rfl, by omega, g, by omega⟩
  · rw [if_neg h0] at h; exact absurd h h0
theorem from_any (n s : Int) (p : Option Addr) (cap m : Nat) (ls : List Lk) (w : World) (hm : m = ls.length) (hi : CI layL w p cap ls) (hs : (Lit.int .i64 s).wf = true) (c : Int) (hc : wrong n ls [s] = c) :
    Calls Tryd.prog 24 #[.int .i64 n, .slice p m cap, .int .i64 s] w fun e w' => ∃ u v, e = .returned (.tuple #[u, v, er c]) ∧ Rd w' u (fars n ls s c) ∧ Rd w' v (hops n ls s c) ∧ Below w.heap.size w w' := by
  unfold fars hops
  by_cases h0 : c = 0
  · subst h0
    obtain ⟨N, S, rfl, rfl, g, hS⟩ := wrong_good hc
    rw [if_pos rfl, if_pos rfl, Int.toNat_natCast, Int.toNat_natCast, er_0]
    exact from_good N S p cap m ls w hm hi g hS
  · rw [if_neg h0, if_neg h0]
    refine (from_bad n s p cap m ls w hm hi hs c hc h0).mono ?_
    rintro e w' ⟨rfl, hb⟩
    exact ⟨_, _, rfl, Rd.none _, Rd.none _, hb⟩
end Go.Proofs.YtedhippamfioeaaDoor.Spf
