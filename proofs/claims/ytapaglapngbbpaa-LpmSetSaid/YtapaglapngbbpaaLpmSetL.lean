/- LpmSet: a route that is set tells for its addresses unless a longer one does, and nothing else changes: for every input. -/
import Derived.Test.YtapaglapngbbpaaLpmRouted
import Derived.Test.YtapaglapngbbpaaCidrIn
namespace Go.Proofs.Ytapaglapngbbpaa.LpmSetL
open Go.ChangeShapes Go.WideShapes Go.ChangeAt Go.RowKit Go.Sort Go.Proofs.Ytapaglapngbbpaa.Kit Go.Proofs.Ytapaglapngbbpaa.App Go.Proofs.Ytapaglapngbbpaa.Cells Go.Proofs.Ytapaglapngbbpaa.Cidr Go.Proofs.Ytapaglapngbbpaa.CidrMath Go.Proofs.Ytapaglapngbbpaa.RouteMath Go.Proofs.Ytapaglapngbbpaa.Route Go.Proofs.Ytapaglapngbbpaa.Lpm
set_option linter.unusedVariables false
set_option maxRecDepth 20000

theorem fnd_nat (l : List Rt) (z : Nat) (hz : z ≤ 65535) : fnd l z = findR l z ∧ fndE l z = foundE (findR l z) := by
  have h : (0 : Int) ≤ (z : Int) ∧ (z : Int) ≤ 65535 := by omega
  unfold fnd fndE
  rw [if_pos h, if_pos h, Int.toNat_natCast]
  exact ⟨rfl, rfl⟩
theorem setN_in {l : List Rt} (hG : GT l) {r : Rt} (h0 : setC l r = 0) {a : Nat} (ha : has (key r) a) (hl : ∀ x, findR l a = some x → x.len ≤ r.len) : findR (setN l r) a = some r := by
  unfold setN
  rw [if_pos h0]
  exact find_set_in hG.sorted hG.good ((good_iff _).1 (set_code h0).1) _ decide_eq_true_iff ha hl
theorem setN_out {l : List Rt} (hG : GT l) {r : Rt} (h0 : setC l r = 0) {a : Nat} (hno : ¬ has (key r) a ∨ ∃ x, findR l a = some x ∧ r.len < x.len) : findR (setN l r) a = findR l a := by
  unfold setN
  rw [if_pos h0]
  exact find_set_out hG.sorted hG.good ((good_iff _).1 (set_code h0).1) _ decide_eq_true_iff hno
theorem box_kept {W W' : World} {b g : Nat} {r : Rt} (h : BoxR W b r) (hg : W.grownBy W' (some g)) (hne : b ≠ g) : BoxR W' b r := by
  have hk := hg.block b h.1 (fun e => hne (Option.some.inj e))
  exact ⟨Nat.lt_of_lt_of_le h.1 hg.size, (World.cell?_of_block (a := ⟨b, 0, none⟩) hk).trans h.2.1, (World.cell?_of_block (a := ⟨b, 1, none⟩) hk).trans h.2.2.1, (World.cell?_of_block (a := ⟨b, 2, none⟩) hk).trans h.2.2.2⟩
set_option maxHeartbeats 4000000 in
theorem core (p : Option Addr) (cap n : Nat) (ls : List (List Int)) (r : Rt) (a : Int) (w : World) (hn : n = ls.length) (hR : RowsI w p cap ls) :
    Calls Try.prog 3 #[.slice p n cap, .agg #[.int .i64 r.adr, .int .i64 r.len, .int .i64 r.hop], .int .i64 a] w fun e w' => e = .returned (.bool true) ∧ Below w.heap.size w w' := by
  have HR := Lib.hid hR
  have F := Lib.hid (fun W => fact_any W)
  have RT := Lib.hid (fun W (h : RowsI W p cap ls) => routed_any p cap n ls W hn h)
  have B0 := BoxR.new w r 26
  clear hn hR
  go_enter Try.func3, Try.ntmps3
  go_wp2_with fail
  refine (F.out _).mono ?_; rintro e w1 ⟨rfl, hb1⟩
  have hB1 : Below w.heap.size w w1 := bcall (balloc (brefl w) _) hb1
  have BX1 := Lib.hid (B0.below hb1 B0.1)
  have HS := Lib.hid (show w.heap.size < w1.heap.size from BX1.out.1)
  clear B0 hb1 F
  go_wp2_with fail
  refine (RT.out w1 (HR.out.below hB1)).mono ?_; rintro e w2 ⟨l, rfl, hT2, hG, hb2⟩
  have hB2 := bcall hB1 hb2
  have BX2 := Lib.hid (BX1.out.below hb2 BX1.out.1)
  clear hB1 hb2 BX1 RT HR
  generalize w1.heap.size = g at hT2 HS ⊢
  have HG := Lib.hid hG
  have HT2 := Lib.hid hT2
  clear hT2
  obtain ⟨ra, rb, rh⟩ := r
  by_cases ha : 0 ≤ a ∧ a ≤ 65535
  · obtain ⟨z, rfl⟩ : ∃ z : Nat, a = (z : Int) := ⟨a.toNat, by omega⟩
    have hz : z ≤ 65535 := by omega
    cases ho : findR l z with
    | none =>
      have ff : fnd l (z : Int) = none := by rw [(fnd_nat l z hz).1, ho]
      have fe : fndE l (z : Int) = foundE (none) := by rw [(fnd_nat l z hz).2, ho]
      have C1 := Lib.hid (fun W hT => find_all g (z : Int) l W hT hG)
      rw [ff, fe] at C1
      simp only [foundH, foundL, foundE, er_5] at C1
      clear ff fe hG
      go_wp2_with fail
      refine (C1.out w2 HT2.out).mono ?_; rintro e w3 ⟨rfl, hb3⟩
      have hB3 := bcall hB2 hb3
      have HT3 := Lib.hid (HT2.out.below hb3 HT2.out.lt)
      have BX3 := Lib.hid (BX2.out.below hb3 BX2.out.1)
      clear hb3 hB2 HT2 BX2 C1
      go_wp2_with fail
      refine (in_any (z : Int) 0 65535 w3 true (by rw [decide_eq_true (by omega), decide_eq_true (by omega)]; rfl)).mono ?_; rintro e w3 ⟨rfl, rfl⟩
      by_cases hs : setC l ⟨ra, rb, rh⟩ = 0
      · by_cases hh : has ⟨ra, rb⟩ z
        · have hf2 : findR (setN l ⟨ra, rb, rh⟩) z = some ⟨ra, rb, rh⟩ := setN_in HG.out hs hh (fun x hx => by rw [ho] at hx; cases hx)
          have SC := Lib.hid (fun W hT => set_any g l ⟨ra, rb, rh⟩ W hT HG.out)
          rw [hs, er_0] at SC
          simp only at SC
          obtain ⟨_, c30, c31, c32⟩ := BX3.out
          simp only at c30 c31 c32
          go_wp2_with fail
          refine (SC.out w3 HT3.out).mono ?_; rintro e w4 ⟨rfl, hT4, hg4⟩
          have hB4 := bgrown hB3 (Nat.le_refl _) hg4 (Nat.le_of_lt HS.out)
          clear c30 c31 c32 SC
          have BX4 := Lib.hid (box_kept BX3.out hg4 (Nat.ne_of_lt HS.out))
          have C2 := Lib.hid (fun W hT => find_all g (z : Int) (setN l ⟨ra, rb, rh⟩) W hT (HG.out.set _))
          rw [(fnd_nat _ z hz).1, (fnd_nat _ z hz).2, hf2] at C2
          simp only [foundH, foundL, foundE, er_0] at C2
          have HT4 := Lib.hid hT4
          have RI := Lib.hid (fun W => rIn_any ⟨ra, rb⟩ ((good_iff _).1 (set_code hs).1) (z : Int) ⟨by omega, by omega⟩ W true (by show true = true ↔ ra ≤ (z : Int) ∧ (z : Int) < ra + siz ⟨ra, rb⟩; exact ⟨fun _ => hh, fun _ => rfl⟩))
          simp only at RI
          clear hT4 hg4 BX3 HT3 hf2 hs HG
          go_wp2_with fail
          refine (C2.out w4 HT4.out).mono ?_; rintro e w5 ⟨rfl, hb5⟩
          have hB5 := bcall hB4 hb5
          have BX5 := Lib.hid (BX4.out.below hb5 BX4.out.1)
          obtain ⟨_, c50, c51, c52⟩ := BX5.out
          simp only at c50 c51 c52
          clear hb5 HT4 BX4 C2 hB4 hB3
          go_wp2_with fail
          refine (RI.out w5).mono ?_; rintro e w6 ⟨rfl, hg6⟩
          have hg6 : Gr w5 w6 := hg6
          have hB6 := lgr hB5 hB5.size hg6
          obtain ⟨_, c60, c61, c62⟩ := BX5.out.below hg6.below BX5.out.1
          simp only at c60 c61 c62
          clear hg6 hB5 BX5 c50 c51 c52 RI
          go_wp2_with fail
          go_ret
          exact ⟨rfl, hB6⟩
        · have hf2 : findR (setN l ⟨ra, rb, rh⟩) z = none := (setN_out HG.out hs (.inl hh)).trans ho
          have SC := Lib.hid (fun W hT => set_any g l ⟨ra, rb, rh⟩ W hT HG.out)
          rw [hs, er_0] at SC
          simp only at SC
          obtain ⟨_, c30, c31, c32⟩ := BX3.out
          simp only at c30 c31 c32
          go_wp2_with fail
          refine (SC.out w3 HT3.out).mono ?_; rintro e w4 ⟨rfl, hT4, hg4⟩
          have hB4 := bgrown hB3 (Nat.le_refl _) hg4 (Nat.le_of_lt HS.out)
          clear c30 c31 c32 SC
          have BX4 := Lib.hid (box_kept BX3.out hg4 (Nat.ne_of_lt HS.out))
          have C2 := Lib.hid (fun W hT => find_all g (z : Int) (setN l ⟨ra, rb, rh⟩) W hT (HG.out.set _))
          rw [(fnd_nat _ z hz).1, (fnd_nat _ z hz).2, hf2] at C2
          simp only [foundH, foundL, foundE, er_5] at C2
          have HT4 := Lib.hid hT4
          have RI := Lib.hid (fun W => rIn_any ⟨ra, rb⟩ ((good_iff _).1 (set_code hs).1) (z : Int) ⟨by omega, by omega⟩ W false (by show false = true ↔ ra ≤ (z : Int) ∧ (z : Int) < ra + siz ⟨ra, rb⟩; exact ⟨fun h => by simp at h, fun h => absurd h hh⟩))
          simp only at RI
          clear hT4 hg4 BX3 HT3 hf2 hs HG
          go_wp2_with fail
          refine (C2.out w4 HT4.out).mono ?_; rintro e w5 ⟨rfl, hb5⟩
          have hB5 := bcall hB4 hb5
          have BX5 := Lib.hid (BX4.out.below hb5 BX4.out.1)
          obtain ⟨_, c50, c51, c52⟩ := BX5.out
          simp only at c50 c51 c52
          clear hb5 HT4 BX4 C2 hB4 hB3
          go_wp2_with fail
          refine (RI.out w5).mono ?_; rintro e w6 ⟨rfl, hg6⟩
          have hg6 : Gr w5 w6 := hg6
          have hB6 := lgr hB5 hB5.size hg6
          obtain ⟨_, c60, c61, c62⟩ := BX5.out.below hg6.below BX5.out.1
          simp only at c60 c61 c62
          clear hg6 hB5 BX5 c50 c51 c52 RI
          go_wp2_with fail
          go_quiet (fail)
          go_wp2_with fail
          go_ret
          exact ⟨rfl, below_drewN hB6 _⟩
      · have SC := Lib.hid (fun W hT => set_any g l ⟨ra, rb, rh⟩ W hT HG.out)
        rw [er_ne hs] at SC
        simp only at SC
        obtain ⟨_, c30, c31, c32⟩ := BX3.out
        simp only at c30 c31 c32
        go_wp2_with fail
        refine (SC.out w3 HT3.out).mono ?_; rintro e w4 ⟨rfl, hT4, hg4⟩
        have hB4 := bgrown hB3 (Nat.le_refl _) hg4 (Nat.le_of_lt HS.out)
        clear c30 c31 c32 SC
        go_wp2_with fail
        go_ret
        exact ⟨rfl, hB4⟩
    | some x =>
      obtain ⟨xa, xb, xh⟩ := x
      have ff : fnd l (z : Int) = some ⟨xa, xb, xh⟩ := by rw [(fnd_nat l z hz).1, ho]
      have fe : fndE l (z : Int) = foundE (some ⟨xa, xb, xh⟩) := by rw [(fnd_nat l z hz).2, ho]
      have C1 := Lib.hid (fun W hT => find_all g (z : Int) l W hT hG)
      rw [ff, fe] at C1
      simp only [foundH, foundL, foundE, er_0] at C1
      clear ff fe hG
      go_wp2_with fail
      refine (C1.out w2 HT2.out).mono ?_; rintro e w3 ⟨rfl, hb3⟩
      have hB3 := bcall hB2 hb3
      have HT3 := Lib.hid (HT2.out.below hb3 HT2.out.lt)
      have BX3 := Lib.hid (BX2.out.below hb3 BX2.out.1)
      clear hb3 hB2 HT2 BX2 C1
      go_wp2_with fail
      refine (in_any (z : Int) 0 65535 w3 true (by rw [decide_eq_true (by omega), decide_eq_true (by omega)]; rfl)).mono ?_; rintro e w3 ⟨rfl, rfl⟩
      by_cases hs : setC l ⟨ra, rb, rh⟩ = 0
      · by_cases hh : has ⟨ra, rb⟩ z
        · by_cases hx : xb ≤ rb
          · have hf2 : findR (setN l ⟨ra, rb, rh⟩) z = some ⟨ra, rb, rh⟩ := setN_in HG.out hs hh (fun x hx2 => by rw [ho] at hx2; rw [← Option.some.inj hx2]; exact hx)
            have tx : decide (xb ≤ rb) = true := decide_eq_true hx
            have SC := Lib.hid (fun W hT => set_any g l ⟨ra, rb, rh⟩ W hT HG.out)
            rw [hs, er_0] at SC
            simp only at SC
            obtain ⟨_, c30, c31, c32⟩ := BX3.out
            simp only at c30 c31 c32
            go_wp2_with fail
            refine (SC.out w3 HT3.out).mono ?_; rintro e w4 ⟨rfl, hT4, hg4⟩
            have hB4 := bgrown hB3 (Nat.le_refl _) hg4 (Nat.le_of_lt HS.out)
            clear c30 c31 c32 SC
            have BX4 := Lib.hid (box_kept BX3.out hg4 (Nat.ne_of_lt HS.out))
            have C2 := Lib.hid (fun W hT => find_all g (z : Int) (setN l ⟨ra, rb, rh⟩) W hT (HG.out.set _))
            rw [(fnd_nat _ z hz).1, (fnd_nat _ z hz).2, hf2] at C2
            simp only [foundH, foundL, foundE, er_0] at C2
            have HT4 := Lib.hid hT4
            have RI := Lib.hid (fun W => rIn_any ⟨ra, rb⟩ ((good_iff _).1 (set_code hs).1) (z : Int) ⟨by omega, by omega⟩ W true (by show true = true ↔ ra ≤ (z : Int) ∧ (z : Int) < ra + siz ⟨ra, rb⟩; exact ⟨fun _ => hh, fun _ => rfl⟩))
            simp only at RI
            clear hT4 hg4 BX3 HT3 hf2 hs HG
            go_wp2_with fail
            refine (C2.out w4 HT4.out).mono ?_; rintro e w5 ⟨rfl, hb5⟩
            have hB5 := bcall hB4 hb5
            have BX5 := Lib.hid (BX4.out.below hb5 BX4.out.1)
            obtain ⟨_, c50, c51, c52⟩ := BX5.out
            simp only at c50 c51 c52
            clear hb5 HT4 BX4 C2 hB4 hB3
            go_wp2_with fail
            refine (RI.out w5).mono ?_; rintro e w6 ⟨rfl, hg6⟩
            have hg6 : Gr w5 w6 := hg6
            have hB6 := lgr hB5 hB5.size hg6
            obtain ⟨_, c60, c61, c62⟩ := BX5.out.below hg6.below BX5.out.1
            simp only at c60 c61 c62
            clear hg6 hB5 BX5 c50 c51 c52 RI
            go_wp2_with fail
            go_ret
            exact ⟨rfl, hB6⟩
          · have hf2 : findR (setN l ⟨ra, rb, rh⟩) z = some ⟨xa, xb, xh⟩ := (setN_out HG.out hs (.inr ⟨_, ho, show rb < xb by omega⟩)).trans ho
            have tx : decide (xb ≤ rb) = false := decide_eq_false hx
            have SC := Lib.hid (fun W hT => set_any g l ⟨ra, rb, rh⟩ W hT HG.out)
            rw [hs, er_0] at SC
            simp only at SC
            obtain ⟨_, c30, c31, c32⟩ := BX3.out
            simp only at c30 c31 c32
            go_wp2_with fail
            refine (SC.out w3 HT3.out).mono ?_; rintro e w4 ⟨rfl, hT4, hg4⟩
            have hB4 := bgrown hB3 (Nat.le_refl _) hg4 (Nat.le_of_lt HS.out)
            clear c30 c31 c32 SC
            have BX4 := Lib.hid (box_kept BX3.out hg4 (Nat.ne_of_lt HS.out))
            have C2 := Lib.hid (fun W hT => find_all g (z : Int) (setN l ⟨ra, rb, rh⟩) W hT (HG.out.set _))
            rw [(fnd_nat _ z hz).1, (fnd_nat _ z hz).2, hf2] at C2
            simp only [foundH, foundL, foundE, er_0] at C2
            have HT4 := Lib.hid hT4
            have RI := Lib.hid (fun W => rIn_any ⟨ra, rb⟩ ((good_iff _).1 (set_code hs).1) (z : Int) ⟨by omega, by omega⟩ W true (by show true = true ↔ ra ≤ (z : Int) ∧ (z : Int) < ra + siz ⟨ra, rb⟩; exact ⟨fun _ => hh, fun _ => rfl⟩))
            simp only at RI
            clear hT4 hg4 BX3 HT3 hf2 hs HG
            go_wp2_with fail
            refine (C2.out w4 HT4.out).mono ?_; rintro e w5 ⟨rfl, hb5⟩
            have hB5 := bcall hB4 hb5
            have BX5 := Lib.hid (BX4.out.below hb5 BX4.out.1)
            obtain ⟨_, c50, c51, c52⟩ := BX5.out
            simp only at c50 c51 c52
            clear hb5 HT4 BX4 C2 hB4 hB3
            go_wp2_with fail
            refine (RI.out w5).mono ?_; rintro e w6 ⟨rfl, hg6⟩
            have hg6 : Gr w5 w6 := hg6
            have hB6 := lgr hB5 hB5.size hg6
            obtain ⟨_, c60, c61, c62⟩ := BX5.out.below hg6.below BX5.out.1
            simp only at c60 c61 c62
            clear hg6 hB5 BX5 c50 c51 c52 RI
            go_wp2_with fail
            go_quiet (fail)
            go_wp2_with fail
            go_ret
            exact ⟨rfl, below_drewN hB6 _⟩
        · have hf2 : findR (setN l ⟨ra, rb, rh⟩) z = some ⟨xa, xb, xh⟩ := (setN_out HG.out hs (.inl hh)).trans ho
          have SC := Lib.hid (fun W hT => set_any g l ⟨ra, rb, rh⟩ W hT HG.out)
          rw [hs, er_0] at SC
          simp only at SC
          obtain ⟨_, c30, c31, c32⟩ := BX3.out
          simp only at c30 c31 c32
          go_wp2_with fail
          refine (SC.out w3 HT3.out).mono ?_; rintro e w4 ⟨rfl, hT4, hg4⟩
          have hB4 := bgrown hB3 (Nat.le_refl _) hg4 (Nat.le_of_lt HS.out)
          clear c30 c31 c32 SC
          have BX4 := Lib.hid (box_kept BX3.out hg4 (Nat.ne_of_lt HS.out))
          have C2 := Lib.hid (fun W hT => find_all g (z : Int) (setN l ⟨ra, rb, rh⟩) W hT (HG.out.set _))
          rw [(fnd_nat _ z hz).1, (fnd_nat _ z hz).2, hf2] at C2
          simp only [foundH, foundL, foundE, er_0] at C2
          have HT4 := Lib.hid hT4
          have RI := Lib.hid (fun W => rIn_any ⟨ra, rb⟩ ((good_iff _).1 (set_code hs).1) (z : Int) ⟨by omega, by omega⟩ W false (by show false = true ↔ ra ≤ (z : Int) ∧ (z : Int) < ra + siz ⟨ra, rb⟩; exact ⟨fun h => by simp at h, fun h => absurd h hh⟩))
          simp only at RI
          clear hT4 hg4 BX3 HT3 hf2 hs HG
          go_wp2_with fail
          refine (C2.out w4 HT4.out).mono ?_; rintro e w5 ⟨rfl, hb5⟩
          have hB5 := bcall hB4 hb5
          have BX5 := Lib.hid (BX4.out.below hb5 BX4.out.1)
          obtain ⟨_, c50, c51, c52⟩ := BX5.out
          simp only at c50 c51 c52
          clear hb5 HT4 BX4 C2 hB4 hB3
          go_wp2_with fail
          refine (RI.out w5).mono ?_; rintro e w6 ⟨rfl, hg6⟩
          have hg6 : Gr w5 w6 := hg6
          have hB6 := lgr hB5 hB5.size hg6
          obtain ⟨_, c60, c61, c62⟩ := BX5.out.below hg6.below BX5.out.1
          simp only at c60 c61 c62
          clear hg6 hB5 BX5 c50 c51 c52 RI
          go_wp2_with fail
          go_quiet (fail)
          go_wp2_with fail
          go_ret
          exact ⟨rfl, below_drewN hB6 _⟩
      · have SC := Lib.hid (fun W hT => set_any g l ⟨ra, rb, rh⟩ W hT HG.out)
        rw [er_ne hs] at SC
        simp only at SC
        obtain ⟨_, c30, c31, c32⟩ := BX3.out
        simp only at c30 c31 c32
        go_wp2_with fail
        refine (SC.out w3 HT3.out).mono ?_; rintro e w4 ⟨rfl, hT4, hg4⟩
        have hB4 := bgrown hB3 (Nat.le_refl _) hg4 (Nat.le_of_lt HS.out)
        clear c30 c31 c32 SC
        go_wp2_with fail
        go_ret
        exact ⟨rfl, hB4⟩
  · have ff : fnd l a = none := by unfold fnd; rw [if_neg ha]
    have fe : fndE l a = 1 := by unfold fndE; rw [if_neg ha]
    have C1 := Lib.hid (fun W hT => find_all g a l W hT hG)
    rw [ff, fe] at C1
    simp only [foundH, foundL, er_1] at C1
    clear ff fe hG
    go_wp2_with fail
    refine (C1.out w2 HT2.out).mono ?_; rintro e w3 ⟨rfl, hb3⟩
    have hB3 := bcall hB2 hb3
    have HT3 := Lib.hid (HT2.out.below hb3 HT2.out.lt)
    have BX3 := Lib.hid (BX2.out.below hb3 BX2.out.1)
    clear hb3 hB2 HT2 BX2 C1
    go_wp2_with fail
    refine (in_any a 0 65535 w3 false (by by_cases h : 0 ≤ a <;> simp [h]; omega)).mono ?_; rintro e w3 ⟨rfl, rfl⟩
    go_wp2_with fail
    go_ret
    exact ⟨rfl, hB3⟩

theorem reads : Try.f3.params.toList.all (fun t => Try.prog.readableRec t && decide (t < Try.prog.types.size)) = true := by kernel_rfl

theorem contract (H : Type) (enc : TypeId × Value → H) (W : World) (base : Nat) (args : Array Value) (ds gs : List (DataW H)) (before : List MemPlace)
    (hval : ∀ (j : Nat) t v, Try.f3.params[j]? = some t → args[j]? = some v → Value.okWide Try.prog W .any base t v)
    (hW : DataW.Whole enc Try.prog Try.f3.params.toList Rows.lpmSetSpec.vars false W args.toList ds gs before) :
    Calls Try.prog 3 args W fun e W' => ∃ v, e = .returned v ∧ Rows.lpmSetSpec.post enc Try.prog Try.f3 false true false false W args v W' := by
  have hW' := hW
  obtain ⟨p, q, hA0, hV, rfl, hfz, hnd⟩ := hW
  have hA : DataW.TrodAll enc Try.prog W 0 (fun _ => true) true Try.f3.params.toList args.toList ds p := hA0
  have hlt := hA.lt
  rw [Try.params3] at hA hval
  obtain ⟨v0, vs0, d0, ds0, p0, q0, hargs, rfl, rfl, h0, r0⟩ := trodAll_cons hA
  obtain ⟨v1, vs1, d1, ds1, p1, q1, hvs1, rfl, rfl, h1, r1⟩ := trodAll_cons r0
  obtain ⟨v2, vs2, d2, ds2, p2, q2, hvs2, rfl, rfl, h2, r2⟩ := trodAll_cons r1
  obtain ⟨hvsn, rfl, rfl⟩ := trodAll_nil r2
  simp only [hvsn, hvs2, hvs1] at hargs
  obtain rfl : args = #[v0, v1, v2] := by cases args; simp_all
  obtain ⟨rfl, rfl⟩ := trodVars_none hV
  clear hA0
  obtain ⟨p0a, cap0, l0, rfl, i0, e0⟩ := open_rows Try.underlying22 Try.underlying46 Try.underlying3 (by kernel_rfl) (by kernel_rfl) (hval 0 22 v0 rfl rfl) h0 (fun x hx => hlt x (by simp [hx]))
  obtain ⟨x1, rfl, f1⟩ := Go.Proofs.Ytapaglapngbbpaa.Route.open_route (hval 1 26 v1 rfl rfl) h1
  obtain ⟨a2, rfl, rfl, rfl, w2⟩ := open_int Try.underlying3 (hval 2 3 v2 rfl rfl) h2
  have b2 := bounds_int w2
  exact law_post 4 laid reads rfl Try.underlying4 rfl hW' ⟨rfl, rfl, rfl⟩ (core _ _ _ l0 x1 a2 W rfl i0)

set_option maxRecDepth 100000 in
theorem lifted (os : Os) (started : os.Started) (H : Type) (enc : TypeId × Value → H) :
    ReturnsInHanded {} Try.checked os 3 .any (Rows.lpmSetSpec.pre6 enc Try.prog Try.f3 Rows.lpmSetRow.domain false) (Rows.lpmSetSpec.post enc Try.prog Try.f3 false true false false) := by
  refine returnsInHanded_of_change (C := Try.checked) own started (by kernel_rfl) Try.func3
    (ChangeSpec.witness6 (enc := enc) (C := Try.checked) false ⟨#[], #[.slice none 0 0, .agg #[.int .i64 0, .int .i64 0, .int .i64 0], .int .i64 0], []⟩ 8 (by kernel_rfl) (by kernel_rfl) (by kernel_rfl) (by kernel_rfl)) ?_
  intro W base args ds gs before hval hW _ _
  exact contract H enc W base args ds gs before hval hW

theorem proved : Rows.LpmSetSaid :=
  OpenClaim.holds_of_wide 3 Try.f3 rfl rfl rfl rfl rfl rfl rfl ⟨rfl, rfl, rfl, rfl, rfl⟩ rfl rfl rfl rfl rfl (by kernel_rfl) Try.func3 (by kernel_rfl)
    (of_decide_eq_true (by kernel_rfl)) (by unfold Func.isWrapper; first | (rw [if_pos (by decide +kernel)]; kernel_rfl) | (rw [if_neg (by decide +kernel)]; exact ⟨rfl, rfl⟩))
    (fun os started H enc _ => lifted os started H enc)
end Go.Proofs.Ytapaglapngbbpaa.LpmSetL
