/- Package spf: Way. No statement is proved here. -/
import Derived.Test.YthicejpgfmhimaaDoorSpf6
import Derived.Test.YthicejpgfmhimaaDoorSpfTrail
import Derived.Deep.LoopGhost
import Derived.Deep.Cut
namespace Go.Proofs.YthicejpgfmhimaaDoor.Spf
open Go.ChangeShapes Go.WideShapes Go.ChangeAt Go.RowKit Go.Proofs.YthicejpgfmhimaaDoor.Kit Go.Proofs.YthicejpgfmhimaaDoor.App Go.Proofs.YthicejpgfmhimaaDoor.Cells Go.Proofs.YthicejpgfmhimaaDoor.Err Go.Proofs.YthicejpgfmhimaaDoor.Vector
set_option linter.unusedVariables false
set_option maxRecDepth 20000
set_option maxHeartbeats 1000000

/-- Nodes as numbers. -/
def ints (l : List Nat) : List Int := l.map fun (x : Nat) => (x : Int)
theorem ints_len (l : List Nat) : (ints l).length = l.length := by unfold ints; rw [List.length_map]
theorem outs_two {n x y : Int} (h : outs n [x, y] = 0) : (0 ≤ x ∧ x < n) ∧ (0 ≤ y ∧ y < n) := by
  unfold outs outs outs at h
  split at h
  · cases h
  · split at h
    · cases h
    · omega
theorem way_bad (n s t : Int) (p : Option Addr) (cap m : Nat) (ls : List Lk) (w : World) (hm : m = ls.length) (hi : CI layL w p cap ls) (hs : (Lit.int .i64 s).wf = true) (ht : (Lit.int .i64 t).wf = true) (c : Int) (hc : wrong n ls [s, t] = c) (h0 : c ≠ 0) :
    Calls Tryd.prog 11 #[.int .i64 n, .slice p m cap, .int .i64 s, .int .i64 t] w fun e w' => e = .returned (.tuple #[.slice none 0 0, er c]) ∧ Below w.heap.size w w' := by
  have C := Lib.hid (check_any n p cap m ls (some ⟨w.heap.size, 0, none⟩) 2 2 [s, t] (w.alloc (.cells #[.int .i64 s, .int .i64 t] 3)) hm (hi.below (balloc (brefl w) _)) rfl (lit_ints w [s, t] (by simp [hs, ht]) (by simp)) c hc)
  have HB := Lib.hid (balloc (brefl w) (.cells #[.int .i64 s, .int .i64 t] 3))
  rw [er_ne h0] at C ⊢
  clear hm hi hs ht hc h0
  go_enter Tryd.func11, Tryd.ntmps11
  go_wp2_with fail
  refine C.out.mono ?_; rintro e w1 ⟨rfl, hb⟩
  have HB2 := Lib.hid (bcall HB.out hb)
  clear hb C HB
  go_wp2_with fail
  go_ret2
  exact ⟨rfl, HB2.out⟩
theorem hop_cells (K : Nat → Int) (W : World) : (Instr.field 44 (.agg (pth K).toArray) 1).run Tryd.prog W = .ok (.agg (ints8 fun k => K k % 16 - 1).toArray) W := by
  show _ = _
  kernel_rfl
theorem way_good (n s t : Nat) (p : Option Addr) (cap m : Nat) (ls : List Lk) (w : World) (hm : m = ls.length) (hi : CI layL w p cap ls) (g : Vector.Good n ls) (hs : s < n) (ht : t < n) (c : Int) (L : List Nat) (hL : Ways n ls s t c L) :
    Calls Tryd.prog 11 #[.int .i64 (n : Int), .slice p m cap, .int .i64 (s : Int), .int .i64 (t : Int)] w fun e w' => ∃ v, e = .returned (.tuple #[v, er c]) ∧ Rd w' v (ints L) ∧ Below w.heap.size w w' := by
  have hn8 := g.up
  have ht8' : (t : Int) < 8 := by omega
  have hws : ∀ x : Nat, x < n → (Lit.int .i64 (x : Int)).wf = true := fun x hx => by simp [Lit.wf, IntKind.min, IntKind.max, IntKind.signed, IntKind.bits]; omega
  have hwr : wrong n ls [(s : Int), (t : Int)] = 0 := by
    unfold wrong
    rw [if_pos (code_good g)]
    unfold outs outs outs
    rw [if_neg (by omega), if_neg (by omega)]
  have C := Lib.hid (check_any n p cap m ls (some ⟨w.heap.size, 0, none⟩) 2 2 [(s : Int), (t : Int)] (w.alloc (.cells #[.int .i64 (s : Int), .int .i64 (t : Int)] 3)) hm (hi.below (balloc (brefl w) _)) rfl (lit_ints w [(s : Int), (t : Int)] (by simp [hws s hs, hws t ht]) (by simp)) 0 hwr)
  have HB := Lib.hid (balloc (brefl w) (.cells #[.int .i64 (s : Int), .int .i64 (t : Int)] 3))
  have CH := Lib.hid (fun W hW => cheapest_any n p cap m ls W g hm (hi.below hW))
  have SH := Lib.hid (fun W i (hi : i < n) => shortest_any n i ls W (fun i j => zc (co ls i j)) g hi (fun _ _ => rfl))
  have HG := Lib.hid g
  have HL := Lib.hid hL
  have HT := Lib.hid ht
  have HS := Lib.hid hs
  have HWF := Lib.hid hws
  have HX := Lib.hid (fun (f : Nat → Int) W => index_ints f t (by omega) W)
  rw [er_0] at C
  clear hm hi hwr hws g hL ht hs
  go_enter Tryd.func11, Tryd.ntmps11
  go_wp2_with fail
  refine C.out.mono ?_; rintro e w1 ⟨rfl, hb⟩
  have HB1 := Lib.hid (bcall HB.out hb)
  clear hb C HB
  go_wp2_with fail
  refine (CH.out _ HB1.out).mono ?_; rintro e w3 ⟨rfl, hb⟩
  have HB3 := Lib.hid (bcall HB1.out hb)
  clear hb CH HB1
  have HR0 := Lib.hid (show Blk 47 (w3.alloc (.cells (net fun _ _ => 0).toArray 47)) w3.heap.size (net fun _ _ => 0) from Blk.new w3 _ _)
  have HB0 := Lib.hid (show Below w.heap.size w (w3.alloc (.cells (net fun _ _ => 0).toArray 47)) from HB3.out.trans ((balloc (brefl w3) _).mono HB3.out.size))
  rw [zero_lit] at HR0 HB0
  simp only []
  go_at_K
  go_step
  go_step
  rename_i K2 hK2
  go_step
  generalize w3.alloc _ = w4 at HR0 HB0 ⊢
  have HF := Lib.hid (show w.heap.size ≤ w3.heap.size from HB3.out.size)
  generalize w3.heap.size = F at HR0 HF ⊢
  refine hK2 _ _ ?_
  have hres := HR0.out
  obtain ⟨C, hC⟩ : ∃ C, C = (fun i j => zc (co ls i j)) := ⟨_, rfl⟩
  rw [← hC] at SH ⊢
  refine wpList_store_mid rfl 47 _ _ rfl F 0 (net C).toArray rfl rfl (fun j hj => ⟨?_, by rw [Nat.zero_add]; exact hres.fz j⟩) (by rw [List.size_toArray]; exact size64 _) (one_net _) ?_
  · rw [List.size_toArray] at hj
    unfold net at hj
    rw [ar_len] at hj
    rw [Nat.zero_add, hres.cell j _ (ar_get _ hj)]
    rfl
  have HR5 := Lib.hid (blk_cells hres (net C) (by unfold net; rw [ar_len, ar_len]))
  have HB5 := Lib.hid (show Below w.heap.size w (w4.setCells F 0 (net C)) from gbelow HB0.out (Nat.le_refl _) (cells_grown F (net C) w4 0) HF.out)
  have HNS := Lib.hid (size64 C)
  rw [show (net C).toArray.toList = net C from rfl]
  generalize w4.setCells F 0 (net C) = w5 at HR5 HB5 ⊢
  generalize net C = N at HR5 SH HNS ⊢
  clear hres HR0 HB0 HB3 hK2 hC C
  have HO5 := Lib.hid (lit_own w5 [(s : Int)] (by simp [HWF.out s HS.out]) (by simp))
  have HB6 := Lib.hid (balloc (brefl w5) (.cells #[.int .i64 (s : Int)] 3))
  have HSZ := Lib.hid (Blk.lt HR5.out)
  rcases hL2 : HL.out with ⟨hc5, hd5, hst5, hL5⟩ | ⟨hc0, hd0, hT0⟩
  · clear hL2
    have u0 : ((s : Int) != (t : Int)) = true := by rw [bne_iff_ne]; omega
    have hh : hop ls s t = -1 := hop_none HG.out (.inr hd5)
    have HE := Lib.hid (And.intro hc5 hL5)
    have HBN := Lib.hid (show Blk 47 (w5.alloc (.cells #[.int .i64 (s : Int)] 3)) F N from Blk.alloc HR5.out _)
    have C5 := Lib.hid (fun W => SH.out W s HS.out)
    have hf := hop_cells (Kf ls s)
    have hx := HX.out (fun k => Kf ls s k % 16 - 1)
    rw [show Kf ls s t % 16 - 1 = -1 from (Kf_far HG.out s t).2.trans hh] at hx
    generalize (pth (Kf ls s)).toArray = V at C5 hf
    generalize (ints8 fun k => Kf ls s k % 16 - 1).toArray = U at hf hx
    have HFF := Lib.hid hf
    have HXX := Lib.hid hx
    clear hc5 hd5 hst5 hL5 hh hf hx
    go_wp2_with fail
    refine wp_loop_rounds 1 ?_
    rw [rounds_succ]
    go_upto_region 8 with (fail)
    refine wp_region_lit ?_
    refine wpList_load_mid rfl 47 _ rfl F 0 rfl N _ (fun j v hv => by rw [Nat.zero_add]; exact HBN.out.cell j v hv) Tryd.underlying47 rfl HNS.out ?_
    go_wp2_with fail
    refine (C5.out _).mono ?_; rintro e w6 ⟨rfl, hb⟩
    have HB7 := Lib.hid (bcall HB6.out hb)
    have hf := HFF.out
    have hx := HXX.out
    clear hb C5
    go_wp2_with fail
    go_ret2
    exact ⟨_, by rw [HE.out.1]; rfl, by rw [HE.out.2]; exact Rd.none _, bcall HB5.out HB7.out⟩
  · clear hL2
    obtain ⟨tl0, hL0⟩ := hT0.head
    have hlen := hT0.len HG.out HS.out
    have HLN := Lib.hid (show tl0.length ≤ 7 from by rw [hL0] at hlen; simp only [List.length_cons] at hlen; omega)
    have HT0 := Lib.hid (show Trail ls t s (s :: tl0) by rw [← hL0]; exact hT0)
    have HL0 := Lib.hid (show [s] ++ tl0 = L by rw [hL0]; rfl)
    have HE := Lib.hid hc0
    have HO6 := Lib.hid (show OwnI (w5.alloc (.cells #[.int .i64 (s : Int)] 3)) w5.heap.size (.slice (some ⟨w5.heap.size, 0, none⟩) 1 1) (ints [s]) from HO5.out)
    clear hc0 hd0 hT0 hL0 hlen HO5
    go_wp2_with fail
    go_loopg [12, 13] tl0.length (fun gk ov nv wr => ∃ (i : Nat) (pre tl : List Nat), nv = .int .i64 i ∧ gk = tl.length ∧ pre.length + tl.length ≤ 8 ∧ Hid (i < n) ∧ Hid (Trail ls t i (i :: tl)) ∧ Hid (pre ++ tl = L) ∧ Hid (OwnI wr w5.heap.size ov (ints pre)) ∧ Hid (Below w5.heap.size w5 wr))
    case atStart => exact ⟨s, [s], tl0, rfl, rfl, by have := HLN.out; simp; omega, HS, HT0, HL0, HO6, HB6⟩
    case round =>
      obtain ⟨i, pre, tl, rfl, rfl, hpl, HI, HTR, HPL, HO, HB⟩ := hrel
      clear HO6 HB6 HT0 HL0
      by_cases hit : i = t
      · have u0 : ((i : Int) != (t : Int)) = false := by rw [hit]; simp
        have htl : tl = [] := by
          have h := HTR.out
          rw [hit] at h
          have := h.uniq .here
          injection this
        have HRD := Lib.hid (show Rd wr _ (ints L) from by
          have h := Rd.own HO.out
          rwa [show pre = L from by rw [← HPL.out, htl, List.append_nil]] at h)
        clear hit htl
        go_wp2_with fail
        go_ret2
        exact ⟨_, by rw [HE.out]; rfl, HRD.out, bcall HB5.out HB.out⟩
      · have u0 : ((i : Int) != (t : Int)) = true := by rw [bne_iff_ne]; omega
        obtain ⟨v, tl2, htl, hv, hTR2⟩ : ∃ v tl2, tl = v :: tl2 ∧ hop ls i t = (v : Int) ∧ Trail ls t v (v :: tl2) := by
          cases HTR.out with
          | here => exact absurd rfl hit
          | @step _ v _ h1 h2 h3 =>
            obtain ⟨tl2, e⟩ := h3.head
            exact ⟨v, tl2, e, h2, by rw [← e]; exact h3⟩
        subst htl
        have hvn : v < n := (co_few HG.out (hop_nb HG.out hv).2.1).2.2.2.1
        have HVN := Lib.hid hvn
        have HTR2 := Lib.hid hTR2
        have HBN := Lib.hid (show Blk 47 wr F N from HR5.out.below HB.out)
        have C5 := Lib.hid (fun W => SH.out W i HI.out)
        have hf := hop_cells (Kf ls i)
        have hx := HX.out (fun k => Kf ls i k % 16 - 1)
        rw [show Kf ls i t % 16 - 1 = (v : Int) from (Kf_far HG.out i t).2.trans hv] at hx
        generalize (pth (Kf ls i)).toArray = V at C5 hf
        generalize (ints8 fun k => Kf ls i k % 16 - 1).toArray = U at hf hx
        have HFF := Lib.hid hf
        have HXX := Lib.hid hx
        have hv0 : decide ((v : Int) < 0) = false := decide_eq_false (by omega)
        have hpl2 : (pre ++ [v]).length + tl2.length ≤ 8 := by simp only [List.length_cons] at hpl; simp; omega
        have HP2 := Lib.hid (show (pre ++ [v]) ++ tl2 = L by rw [← HPL.out]; simp)
        have HPP := Lib.hid (show ints (pre ++ [v]) = ints pre ++ [(v : Int)] by simp [ints])
        have HPN := Lib.hid (ints_len pre)
        have HPB := Lib.hid (show pre.length ≤ 8 from by omega)
        clear hit hv hvn hf hx hTR2
        go_upto_region 8 with (fail)
        refine wp_region_lit ?_
        refine wpList_load_mid rfl 47 _ rfl F 0 rfl N _ (fun j v hv => by rw [Nat.zero_add]; exact HBN.out.cell j v hv) Tryd.underlying47 rfl HNS.out ?_
        go_wp2_with fail
        refine (C5.out _).mono ?_; rintro e w6 ⟨rfl, hb⟩
        have HB7 := Lib.hid (show Below w5.heap.size w5 w6 from bcall HB.out hb)
        have HO7 := Lib.hid (HO.out.below hb)
        have hf := HFF.out
        have hx := HXX.out
        have hsz := HB7.out.size
        obtain ⟨pe, ce, hev, _⟩ := HO7.out.form
        rw [HPN.out] at hev
        subst hev
        clear hb C5 HO HB
        go_wp2_with (at_builtin
                     refine wp_app rfl (.tmp 40) (.tmp 42) rfl w5.heap.size _ (ints pre) (some ⟨w6.heap.size, 0, none⟩) 1 1 [(v : Int)] rfl (HO7.out.alloc _) rfl rfl (Ints.one w6 v (HWF.out v HVN.out)) (by rw [HPN.out, List.length_singleton]; have := HPB.out; omega) (Nat.le_trans hsz (by simp)) ?_
                     intro v8 w8 hown8 hg8 hat8
                     have HO8 := Lib.hid (show OwnI w8 w5.heap.size v8 (ints (pre ++ [v])) by rw [HPP.out]; exact hown8)
                     have HB8 := Lib.hid (show Below w5.heap.size w5 w8 from below_one HB7.out hsz _ HO7.out hg8)
                     clear hown8 hg8 hat8)
        go_roundg tl2.length
        case measure => simp
        case rel => exact ⟨v, pre ++ [v], tl2, rfl, rfl, hpl2, HVN, HTR2, HP2, HO8, HB8⟩
end Go.Proofs.YthicejpgfmhimaaDoor.Spf
