/- Package wheel: Tick. No statement is proved here. -/
import Derived.Test.YtjknojfdlpgicaaDoorWheel1
import Derived.Test.YtjknojfdlpgicaaDoorSortZ
namespace Go.Proofs.YtjknojfdlpgicaaDoor.Wheel
open Go.ChangeShapes Go.WideShapes Go.ChangeAt Go.RowKit Go.Proofs.YtjknojfdlpgicaaDoor.Kit Go.Proofs.YtjknojfdlpgicaaDoor.App Go.Proofs.YtjknojfdlpgicaaDoor.Queue Go.Proofs.YtjknojfdlpgicaaDoor.MapZ Go.Proofs.YtjknojfdlpgicaaDoor.WheelMath Go.Proofs.YtjknojfdlpgicaaDoor.SortZ
set_option linter.unusedVariables false
set_option maxRecDepth 20000
set_option maxHeartbeats 1000000

/-- The map's word when the keys of l have gone. -/
def gone (h : Int → Option Int) (l : List Int) : Int → Option Int := fun i => if i ∈ l then none else h i
theorem gone_nil (h : Int → Option Int) : gone h [] = h := by funext i; simp [gone]
theorem gone_one (h : Int → Option Int) (l : List Int) (x : Int) : updZ (gone h l) x none = gone h (l ++ [x]) := by
  funext i
  unfold updZ gone
  by_cases e : i = x
  · simp [e]
  · simp [e]
theorem take_one {l : List Int} {k : Nat} (h : k < l.length) : l.take (k + 1) = l.take k ++ [l[k]?.getD 0] := by
  rw [List.take_add_one, List.getElem?_eq_getElem h]; rfl
theorem own_ints {w : World} {base n : Nat} {p : Option Addr} {cap : Nat} {l : List Int} (h : OwnQ w base (.slice p n cap) l) : Ints w p cap l ∧ n = l.length := by
  obtain ⟨p', cap', e, hi⟩ := h.form
  injection e with e1 e2 e3
  subst e1; subst e3
  exact ⟨hi, e2⟩
theorem tick_any (X : Nat → Prop) (b n : Nat) (left : Int → Nat) (w : World) (H : Wh X w b n left) :
    Calls Tryd.prog 9 #[.pointer (some ⟨b, 0, none⟩)] w fun e w' => ∃ p cap, e = .returned (.slice p (dueL left).length cap) ∧ Ints w' p cap (dueL left) ∧ Wh X w' b n (dec left) ∧ Keep X w w' := by
  obtain ⟨m, now, sv, q, h, hS, hI⟩ := H
  have hnow := hI.lt
  obtain ⟨s, hs⟩ : ∃ s : Nat, (now + 1) % 400 = s := ⟨_, rfl⟩
  have hs4 : s < 400 := by omega
  have hq := len_slot hI hs4
  have hsort := sort_dueL hI
  rw [hs] at hsort
  have HI := Lib.hid (fun g hg => inv_tick (g := g) hI hs hg)
  have HSD := Lib.hid hsort
  have hs1 : ((now : Int) + 1) % 400 = (s : Int) := by omega
  have hs5 : (s : Int) < 400 := by omega
  have c0 := hS.blk.cell 400 _ (cells_now m now sv)
  have f0 := hS.blk.fz 400
  have hS1 := hS.time s
  have HK1 := Lib.hid (hS.keep_b (Keep.refl X w) 400 (.int .i64 (s : Int)))
  have HS1 := Lib.hid hS1
  have c1 := hS1.blk.cell 400 _ (cells_now m s sv)
  have c2 := hS1.blk.cell s _ (cells_slot m s sv hs4)
  have f2 := hS1.blk.fz s
  obtain ⟨p0, cap0, e0, hi0⟩ := (hS1.own s hs4).form
  have hlen : ((q s).length : Int) ≤ 20 := by omega
  obtain ⟨w1, hw1⟩ : ∃ w1, w.setCell ⟨b, 400, none⟩ (.int .i64 (s : Int)) = w1 := ⟨_, rfl⟩
  rw [hw1] at HK1 HS1 c1 c2 f2 hi0
  have HW1 := Lib.hid hw1
  obtain ⟨L, hL⟩ : ∃ L, (q s).length = L := ⟨_, rfl⟩
  rw [hL] at e0 hq hlen
  have HL := Lib.hid hL
  have HE0 := Lib.hid e0
  rw [e0] at c2
  clear hS hS1 hI hsort hw1 e0 hL hs
  go_enter Tryd.func9, Tryd.ntmps9
  go_wp2_with fail
  rw [hs1, HW1.out]
  go_quiet (fail)
  have HS2 := Lib.hid (HS1.out.drewN nq)
  have HK2 := Lib.hid (HK1.out.drewN nq)
  have hi2 := hi0.below (below_drewN (brefl w1) nq)
  rw [show w1.frozen? ⟨b, s, none⟩ = (w1.drewN nq).frozen? ⟨b, s, none⟩ from rfl] at f2
  clear c0 c1 c2 f0 hi0 HS1 HK1 HW1
  generalize w1.drewN nq = w2 at HS2 HK2 hi2 f2 ⊢
  have c1 := HS2.out.blk.cell 400 _ (cells_now m s sv)
  have c2 := HS2.out.blk.cell s _ (cells_slot m s sv hs4)
  go_wp2_with fail
  go_region
  have HX0 := Lib.hid (fun k (hk : (Value.slice p0 L cap0).ownBlock = some k) => (HS2.out.bs s hs4 k (by rw [HE0.out]; exact hk)).2.2)
  have hT := (HS2.out.take hs4).drewN 1
  have hO : OwnQ ((w2.setCell ⟨b, s, none⟩ (.slice none 0 0)).drew) 0 (.slice p0 L cap0) (q s) := by
    have h1 := HS2.out.own s hs4
    rw [HE0.out] at h1
    exact (h1.more (set_grown w2 b s _) (own_ne fun k hk e => (HS2.out.bs s hs4 k (by rw [HE0.out]; exact hk)).1 (by injection e with e; exact e.symm))).drew
  have HK3 := Lib.hid (HS2.out.keep_b HK2.out s (.slice none 0 0) |>.drewN 1)
  rw [HE0.out] at hT
  obtain ⟨sv', hsv⟩ : ∃ z, updQ sv s (.slice none 0 0) = z := ⟨_, rfl⟩
  obtain ⟨q', hq'⟩ : ∃ z, updQ q s [] = z := ⟨_, rfl⟩
  have HI2 : Hid (∀ g : Int → Option Int, (∀ i, g i = if i ∈ q s then none else h i) → Inv (dec left) s q' g) := Lib.hid (fun g hg => by rw [← hq']; exact HI.out g hg)
  rw [hsv, hq'] at hT
  have HS3 := Lib.hid hT
  have HO3 := Lib.hid hO
  change Hid (Keep X w ((w2.setCell ⟨b, s, none⟩ (.slice none 0 0)).drew)) at HK3
  change Hid (St (fun k => X k ∨ (Value.slice p0 L cap0).ownBlock = some k) ((w2.setCell ⟨b, s, none⟩ (.slice none 0 0)).drew) b m n s sv' q' h) at HS3
  clear hT hO HK2 c1 c2 f2 hi2 hsv hq' HI HS2 HE0
  generalize (w2.setCell ⟨b, s, none⟩ (.slice none 0 0)).drew = w3 at HS3 HO3 HK3 ⊢
  go_wp2_with fail
  go_loopw [34] (fun iv wr => ∃ j : Nat, iv = .int .i64 (j : Int) ∧ j ≤ L ∧ Hid (St (fun k => X k ∨ (Value.slice p0 L cap0).ownBlock = some k) wr b m n s sv' q' (gone h ((q s).take j))) ∧ Hid (OwnQ wr 0 (.slice p0 L cap0) (q s)) ∧ Hid (Keep X w wr)) (fun i _ => L - (intOf i).toNat)
  case atStart => exact ⟨0, rfl, Nat.zero_le _, by rw [List.take_zero, gone_nil]; exact HS3, HO3, HK3⟩
  case round =>
    obtain ⟨j, rfl, hj, HS, HO, HK⟩ := hrel
    clear HS3 HO3 HK3
    have hi := (own_ints HO.out).1
    by_cases hjL : j < L
    · have t1 : decide ((j : Int) < (L : Int)) = true := decide_eq_true (by omega)
      obtain ⟨bb, off, rfl, hb, hcs⟩ := hi.2.2.2 (by rw [HL.out]; omega)
      have hc := hcs j (by rw [HL.out]; omega)
      have hx : (Lit.int .i64 ((q s)[j]?.getD 0)).wf = true := hi.2.2.1 j
      have ht := Lib.hid (take_one (l := q s) (k := j) (by rw [HL.out]; omega))
      generalize (q s)[j]?.getD 0 = x at hc hx ht
      have c3 := HS.out.blk.cell 401 _ (cells_map m s sv')
      clear hi hcs
      go_wp2_with (at_delete
                   refine wp_del rfl (.tmp 41) (.tmp 42) rfl HS.out.map x hx rfl rfl ?_
                   intro w4 hm4 hg4)
      rw [gone_one, ← ht.out] at hm4
      go_roundw
      case rel => exact ⟨j + 1, by first | rfl | go_num, by omega, Lib.hid (HS.out.put hm4 hg4), Lib.hid (HO.out.more hg4 (own_ne fun k hk e => HS.out.xm (.inr (by rw [hk]; exact e.symm)))), Lib.hid (HK.out.grown hg4 (fun k hk e => HS.out.xm (.inl (by injection e with e; exact e ▸ hk))) (fun k hk => HS.out.xl k (.inl hk)))⟩
      case measure => simp [intOf]; omega
    · obtain rfl : j = L := by omega
      have t1 : decide ((j : Int) < (j : Int)) = false := decide_eq_false (by omega)
      have SR := Lib.hid (sort_any 0 _ (q s) wr HO.out (by rw [HL.out]; omega))
      rw [List.take_of_length_le (by rw [HL.out]; exact Nat.le_refl _)] at HS
      clear hi
      go_wp2_with fail
      refine SR.out.mono ?_; rintro e w5 ⟨rfl, ho5, hg5⟩
      rw [HSD.out] at ho5
      have hi5 := own_ints ho5
      clear SR
      go_wp2_with fail
      go_ret
      refine ⟨p0, cap0, by first | rfl | rw [hi5.2], hi5.1, ⟨m, s, sv', q', _, HS.out.more hg5 (fun k hk => .inr hk) (fun k hk => ⟨.inl (.inl hk), Nat.lt_of_lt_of_le (HS.out.xl k (.inl hk)) hg5.size⟩), HI2.out _ (fun i => rfl)⟩, HK.out.grown hg5 (fun k hk e => HX0.out k e.symm hk) (fun k hk => HS.out.xl k (.inl hk))⟩
end Go.Proofs.YtjknojfdlpgicaaDoor.Wheel
