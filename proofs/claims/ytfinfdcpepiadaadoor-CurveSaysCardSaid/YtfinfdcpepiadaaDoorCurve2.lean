/- Package curve: Backlog, Delay and Fits. No statement is proved here. -/
import Derived.Test.YtfinfdcpepiadaaDoorCurveSearch
namespace Go.Proofs.YtfinfdcpepiadaaDoor.Curve
open Go.ChangeShapes Go.WideShapes Go.ChangeAt Go.RowKit Go.Proofs.YtfinfdcpepiadaaDoor.Kit Go.Proofs.YtfinfdcpepiadaaDoor.App Go.Proofs.YtfinfdcpepiadaaDoor.Err
set_option linter.unusedVariables false
set_option maxRecDepth 20000
set_option maxHeartbeats 1000000

theorem cell_at {w : World} {b off cap : Nat} {l : List Int} (h : Ints w (some ⟨b, off, none⟩) cap l) (k : Nat) (hk : k < l.length) : w.cell? ⟨b, off + k, none⟩ = some (.int .i64 (am l k)) := by
  obtain ⟨b', off', e, _, hc⟩ := h.2.2.2 (by omega)
  injection e with e
  injection e with e1 e2
  subst e1; subst e2
  exact hc k hk
theorem at_some {w : World} {p : Option Addr} {cap : Nat} {l : List Int} (h : Ints w p cap l) (hl : 0 < l.length) : ∃ b off, p = some ⟨b, off, none⟩ := by
  obtain ⟨b, off, e, _, _⟩ := h.2.2.2 hl
  exact ⟨b, off, e⟩
theorem back_bad (p q : Option Addr) (cp cq n m : Nat) (f g : List Int) (w : World) (hn : n = f.length) (hm : m = g.length) (hf : Ints w p cp f) (hg : Ints w q cq g) (c : Int) (hc : two f g = c) (h0 : c ≠ 0) : Calls Tryd.prog 14 #[.slice p n cp, .slice q m cq] w fun e w' => e = .returned (.tuple #[.int .i64 0, er c]) ∧ ∃ m, w' = w.drewN m := by
  have CB := Lib.hid (both_any p q cp cq n m f g w hn hm hf hg c hc)
  rw [er_ne h0] at CB ⊢
  clear hn hm hf hg hc h0
  go_enter Tryd.func14, Tryd.ntmps14
  go_wp2_with fail
  refine CB.out.mono ?_; rintro e w1 ⟨rfl, i, rfl⟩
  go_wp2_with fail
  go_ret2
  exact ⟨rfl, _, rfl⟩
theorem back_good (bf of bg og cf cg n : Nat) (f g : List Int) (w : World) (hn : n = f.length) (hm : n = g.length) (hf : Ints w (some ⟨bf, of, none⟩) cf f) (hg : Ints w (some ⟨bg, og, none⟩) cg g) (gf : Good f) (gg : Good g) : Calls Tryd.prog 14 #[.slice (some ⟨bf, of, none⟩) n cf, .slice (some ⟨bg, og, none⟩) n cg] w fun e w' => e = .returned (.tuple #[.int .i64 (backTo f g n), .nilIface]) ∧ ∃ m, w' = w.drewN m := by
  have CB := Lib.hid (both_any _ _ cf cg n n f g w hn hm hf hg 0 (two_zero.2 ⟨gf, gg, by rw [← hn, ← hm]⟩))
  rw [er_0] at CB
  have h1 := gf.pos
  have h2 := gf.len
  rw [← hn] at h1 h2
  have CF := Lib.hid (fun W (hW : ∃ i, W = w.drewN i) k (hk : k < n) => (show W.cell? ⟨bf, of + k, none⟩ = some (.int .i64 (am f k)) from by
    obtain ⟨i, rfl⟩ := hW
    exact cell_at hf k (by rw [← hn]; exact hk)))
  have CG := Lib.hid (fun W (hW : ∃ i, W = w.drewN i) k (hk : k < n) => (show W.cell? ⟨bg, og + k, none⟩ = some (.int .i64 (am g k)) from by
    obtain ⟨i, rfl⟩ := hW
    exact cell_at hg k (by rw [← hm]; exact hk)))
  have GF := Lib.hid gf
  have GG := Lib.hid gg
  clear hn hm hf hg gf gg
  go_enter Tryd.func14, Tryd.ntmps14
  go_wp2_with fail
  refine CB.out.mono ?_; rintro e w1 ⟨rfl, hw1⟩
  have HW := Lib.hid hw1
  clear CB hw1
  go_wp2_with fail
  go_loopw [7, 18] (fun vv kv wr => ∃ (k : Nat) (v : Int), k ≤ n ∧ kv = .int .i64 k ∧ vv = .int .i64 v ∧ wr = w1 ∧ 0 ≤ v ∧ v ≤ 1000 ∧ Hid (v = backTo f g k)) (fun _ k _ => n - (intOf k).toNat)
  case atStart => exact ⟨0, 0, Nat.zero_le _, rfl, rfl, rfl, by omega, by omega, Lib.hid rfl⟩
  case round =>
    obtain ⟨k, v, hk, rfl, rfl, rfl, v1, v2, HV⟩ := hrel
    by_cases hlt : k < n
    · have c1 := CF.out wr HW.out k hlt
      have c2 := CG.out wr HW.out k hlt
      have a1 := GF.out.num k
      have a2 := GG.out.num k
      have HE := Lib.hid (show backTo f g (k + 1) = if v < am f k - am g k then am f k - am g k else v by rw [HV.out]; rfl)
      generalize am f k = x at c1 a1 HE
      generalize am g k = y at c2 a2 HE
      obtain ⟨x1, x2⟩ := a1
      obtain ⟨y1, y2⟩ := a2
      go_wp2_with fail
      all_goals
        go_roundw
        case rel => exact ⟨k + 1, _, by omega, by first | rfl | go_num, by first | rfl | go_num, by first | trivial | rfl, by omega, by omega, Lib.hid (by have he := HE.out; first | exact he.symm | (split at he <;> omega))⟩
        case measure => simp [intOf]; omega
    · obtain rfl : k = n := by omega
      go_wp2_with fail
      go_ret2
      exact ⟨by rw [HV.out]; rfl, HW.out⟩
theorem back_any (p q : Option Addr) (cp cq n m : Nat) (f g : List Int) (w : World) (hn : n = f.length) (hm : m = g.length) (hf : Ints w p cp f) (hg : Ints w q cq g) (c : Int) (hc : two f g = c) (v : Int) (hv : (if c = 0 then backTo f g n else 0) = v) : Calls Tryd.prog 14 #[.slice p n cp, .slice q m cq] w fun e w' => e = .returned (.tuple #[.int .i64 v, er c]) ∧ ∃ m, w' = w.drewN m := by
  by_cases h0 : c = 0
  · subst h0
    rw [if_pos rfl] at hv
    obtain ⟨gf, gg, hl⟩ := two_zero.1 hc
    obtain rfl : n = m := by rw [hn, hm, hl]
    obtain ⟨b1, o1, rfl⟩ := at_some hf gf.pos
    obtain ⟨b2, o2, rfl⟩ := at_some hg gg.pos
    rw [← hv, er_0]
    exact back_good _ _ _ _ _ _ n f g w hn hm hf hg gf gg
  · rw [if_neg h0] at hv
    subst hv
    exact back_bad p q cp cq n m f g w hn hm hf hg c hc h0
theorem under_bad (p q : Option Addr) (cp cq n m : Nat) (f g : List Int) (w : World) (hn : n = f.length) (hm : m = g.length) (hf : Ints w p cp f) (hg : Ints w q cq g) (c : Int) (hc : two f g = c) (h0 : c ≠ 0) : Calls Tryd.prog 16 #[.slice p n cp, .slice q m cq] w fun e w' => e = .returned (.tuple #[.bool false, er c]) ∧ ∃ m, w' = w.drewN m := by
  have CB := Lib.hid (both_any p q cp cq n m f g w hn hm hf hg c hc)
  rw [er_ne h0] at CB ⊢
  clear hn hm hf hg hc h0
  go_enter Tryd.func16, Tryd.ntmps16
  go_wp2_with fail
  refine CB.out.mono ?_; rintro e w1 ⟨rfl, i, rfl⟩
  go_wp2_with fail
  go_ret2
  exact ⟨rfl, _, rfl⟩
theorem under_good (bf of bg og cf cg n : Nat) (f g : List Int) (w : World) (hn : n = f.length) (hm : n = g.length) (hf : Ints w (some ⟨bf, of, none⟩) cf f) (hg : Ints w (some ⟨bg, og, none⟩) cg g) (gf : Good f) (gg : Good g) (R : Bool) (hR : under f g = R) : Calls Tryd.prog 16 #[.slice (some ⟨bf, of, none⟩) n cf, .slice (some ⟨bg, og, none⟩) n cg] w fun e w' => e = .returned (.tuple #[.bool R, .nilIface]) ∧ ∃ m, w' = w.drewN m := by
  have CB := Lib.hid (both_any _ _ cf cg n n f g w hn hm hf hg 0 (two_zero.2 ⟨gf, gg, by rw [← hn, ← hm]⟩))
  rw [er_0] at CB
  have h1 := gf.pos
  have h2 := gf.len
  rw [← hn] at h1 h2
  have CF := Lib.hid (fun W (hW : ∃ i, W = w.drewN i) k (hk : k < n) => (show W.cell? ⟨bf, of + k, none⟩ = some (.int .i64 (am f k)) from by
    obtain ⟨i, rfl⟩ := hW
    exact cell_at hf k (by rw [← hn]; exact hk)))
  have CG := Lib.hid (fun W (hW : ∃ i, W = w.drewN i) k (hk : k < n) => (show W.cell? ⟨bg, og + k, none⟩ = some (.int .i64 (am g k)) from by
    obtain ⟨i, rfl⟩ := hW
    exact cell_at hg k (by rw [← hm]; exact hk)))
  have GF := Lib.hid gf
  have GG := Lib.hid gg
  have hcp := hf.1
  have hcp2 : cf ≤ 9223372036854775807 := by have := hf.2.1; unfold maxLen at this; omega
  rw [← hn] at hcp
  have HR := Lib.hid hR
  have HN := Lib.hid hn
  clear hn hm hf hg gf gg hR
  go_enter Tryd.func16, Tryd.ntmps16
  go_wp2_with fail
  refine CB.out.mono ?_; rintro e w1 ⟨rfl, hw1⟩
  have HW := Lib.hid hw1
  clear CB hw1
  go_wp2_with fail
  go_loopw [19] (fun tv wr => ∃ t : Nat, t ≤ n ∧ tv = .int .i64 t ∧ Hid (∃ m, wr = w.drewN m) ∧ Hid (∀ t', t' < t → ∀ s, s ≤ t' → am f t' - am f s ≤ am g (t' - s))) (fun t _ => n - (intOf t).toNat)
  case atStart => exact ⟨0, Nat.zero_le _, rfl, HW, Lib.hid (fun t' h => by omega)⟩
  case round =>
    clear HW
    obtain ⟨t, ht, rfl, HW, HT⟩ := hrel
    by_cases hlt : t < n
    · have c1 := CF.out wr HW.out t hlt
      have a1 := GF.out.num t
      obtain ⟨x, hx⟩ : ∃ x, am f t = x := ⟨_, rfl⟩
      rw [hx] at c1 a1
      have HX := Lib.hid hx
      obtain ⟨x1, x2⟩ := a1
      have hsl : t + 1 ≤ cf := by omega
      clear hx
      go_wp2_with fail
      generalize wr = w3 at HW c1 ⊢
      go_loopw [29] (fun sv wr => ∃ s : Nat, s ≤ t + 1 ∧ sv = .int .i64 s ∧ wr = w3 ∧ Hid (∀ s', s' < s → am f t - am f s' ≤ am g (t - s'))) (fun s _ => t + 1 - (intOf s).toNat)
      case atStart => exact ⟨0, Nat.zero_le _, rfl, rfl, Lib.hid (fun s' h => by omega)⟩
      case round =>
        obtain ⟨s, hs, rfl, rfl, HS⟩ := hrel
        by_cases hst : s < t + 1
        · have u1 : decide ((s : Int) < (t : Int) + 1) = true := decide_eq_true (by omega)
          have c2 := CF.out wr HW.out s (by omega)
          have c3 := CG.out wr HW.out (t - s) (by omega)
          obtain ⟨d, hd⟩ : ∃ d, t - s = d := ⟨_, rfl⟩
          have hd2 : (t : Int) - (s : Int) = (d : Int) := by omega
          have hd3 : (d : Int) < (n : Int) := by omega
          have a2 := GF.out.num s
          have a3 := GG.out.num d
          rw [hd] at c3
          obtain ⟨y, hy⟩ : ∃ y, am f s = y := ⟨_, rfl⟩
          obtain ⟨z, hz⟩ : ∃ z, am g d = z := ⟨_, rfl⟩
          rw [hy] at c2 a2
          rw [hz] at c3 a3
          have HY := Lib.hid (And.intro hd (And.intro hy hz))
          obtain ⟨y1, y2⟩ := a2
          obtain ⟨z1, z2⟩ := a3
          clear hd hy hz
          by_cases hgt : z < x - y
          · have u2 : decide (x - y > z) = true := decide_eq_true (by omega)
            have HB := Lib.hid (show R = false by
              rw [← HR.out]
              exact under_false (by rw [← HN.out]; exact hlt) (Nat.lt_succ_iff.1 hst) (by rw [HX.out, HY.out.1, HY.out.2.1, HY.out.2.2]; exact hgt))
            go_wp2_with fail
            go_ret2
            exact ⟨by rw [HB.out]; rfl, HW.out⟩
          · have u2 : decide (x - y > z) = false := decide_eq_false (by omega)
            go_wp2_with fail
            go_roundw
            case rel => exact ⟨s + 1, by omega, by first | rfl | go_num, by first | trivial | rfl, Lib.hid (fun s' h => by
              by_cases e : s' = s
              · rw [e, HX.out, HY.out.1, HY.out.2.1, HY.out.2.2]; omega
              · exact HS.out s' (by omega))⟩
            case measure => simp [intOf]; omega
        · have u1 : decide ((s : Int) < (t : Int) + 1) = false := decide_eq_false (by omega)
          go_wp2_with fail
          go_roundw
          case rel => exact ⟨t + 1, by omega, by first | rfl | go_num, HW, Lib.hid (fun t' h s' h' => by
            by_cases e : t' = t
            · subst e; exact HS.out s' (by omega)
            · exact HT.out t' (by omega) s' h')⟩
          case measure => simp [intOf]; omega
    · obtain rfl : t = n := by omega
      have HB := Lib.hid (show R = true by
        rw [← HR.out]
        exact under_iff.2 (by rw [← HN.out]; exact HT.out))
      go_wp2_with fail
      go_ret2
      exact ⟨by rw [HB.out]; rfl, HW.out⟩
theorem under_any (p q : Option Addr) (cp cq n m : Nat) (f g : List Int) (w : World) (hn : n = f.length) (hm : m = g.length) (hf : Ints w p cp f) (hg : Ints w q cq g) (c : Int) (hc : two f g = c) (v : Bool) (hv : (if c = 0 then under f g else false) = v) : Calls Tryd.prog 16 #[.slice p n cp, .slice q m cq] w fun e w' => e = .returned (.tuple #[.bool v, er c]) ∧ ∃ m, w' = w.drewN m := by
  by_cases h0 : c = 0
  · subst h0
    rw [if_pos rfl] at hv
    obtain ⟨gf, gg, hl⟩ := two_zero.1 hc
    obtain rfl : n = m := by rw [hn, hm, hl]
    obtain ⟨b1, o1, rfl⟩ := at_some hf gf.pos
    obtain ⟨b2, o2, rfl⟩ := at_some hg gg.pos
    rw [er_0]
    exact under_good _ _ _ _ _ _ n f g w hn hm hf hg gf gg v hv
  · rw [if_neg h0] at hv
    subst hv
    exact under_bad p q cp cq n m f g w hn hm hf hg c hc h0
theorem wait_bad (p q : Option Addr) (cp cq n m : Nat) (f g : List Int) (w : World) (hn : n = f.length) (hm : m = g.length) (hf : Ints w p cp f) (hg : Ints w q cq g) (c : Int) (hc : two f g = c) (h0 : c ≠ 0) : Calls Tryd.prog 15 #[.slice p n cp, .slice q m cq] w fun e w' => e = .returned (.tuple #[.int .i64 0, er c]) ∧ ∃ m, w' = w.drewN m := by
  have CB := Lib.hid (both_any p q cp cq n m f g w hn hm hf hg c hc)
  rw [er_ne h0] at CB ⊢
  clear hn hm hf hg hc h0
  go_enter Tryd.func15, Tryd.ntmps15
  go_wp2_with fail
  refine CB.out.mono ?_; rintro e w1 ⟨rfl, i, rfl⟩
  go_wp2_with fail
  go_ret2
  exact ⟨rfl, _, rfl⟩
theorem wait_good (bf of bg og cf cg n : Nat) (f g : List Int) (w : World) (hn : n = f.length) (hm : n = g.length) (hf : Ints w (some ⟨bf, of, none⟩) cf f) (hg : Ints w (some ⟨bg, og, none⟩) cg g) (gf : Good f) (gg : Good g) (a : Int) (V : Value) (h5 : late f g n = true → a = 0 ∧ V = er 5) (h0 : late f g n = false → a = waitTo f g n ∧ V = .nilIface) : Calls Tryd.prog 15 #[.slice (some ⟨bf, of, none⟩) n cf, .slice (some ⟨bg, og, none⟩) n cg] w fun e w' => e = .returned (.tuple #[.int .i64 a, V]) ∧ ∃ m, w' = w.drewN m := by
  have CB := Lib.hid (both_any _ _ cf cg n n f g w hn hm hf hg 0 (two_zero.2 ⟨gf, gg, by rw [← hn, ← hm]⟩))
  rw [er_0] at CB
  have h1 := gf.pos
  have h2 := gf.len
  rw [← hn] at h1 h2
  have CF := Lib.hid (fun W (hW : ∃ i, W = w.drewN i) k (hk : k < n) => (show W.cell? ⟨bf, of + k, none⟩ = some (.int .i64 (am f k)) from by
    obtain ⟨i, rfl⟩ := hW
    exact cell_at hf k (by rw [← hn]; exact hk)))
  have CG := Lib.hid (fun W (hW : ∃ i, W = w.drewN i) k (hk : k < n) => (show W.cell? ⟨bg, og + k, none⟩ = some (.int .i64 (am g k)) from by
    obtain ⟨i, rfl⟩ := hW
    exact cell_at hg k (by rw [← hm]; exact hk)))
  have GF := Lib.hid gf
  have GG := Lib.hid gg
  have BS := Lib.hid (fun W (hW : ∃ i, W = w.drewN i) x u (hu : first g x = u) => search_any (some ⟨bg, og, none⟩) cg n g x W hm (by obtain ⟨i, rfl⟩ := hW; exact hg.below (bdrewN (brefl w) i)) gg u hu)
  have H5 := Lib.hid h5
  have H0 := Lib.hid h0
  have HN := Lib.hid hm
  clear hn hm hf hg gf gg h5 h0
  go_enter Tryd.func15, Tryd.ntmps15
  go_wp2_with fail
  refine CB.out.mono ?_; rintro e w1 ⟨rfl, hw1⟩
  have HW := Lib.hid hw1
  clear CB hw1
  go_wp2_with fail
  go_loopw [7, 20] (fun vv kv wr => ∃ (k : Nat) (v : Int), k ≤ n ∧ kv = .int .i64 k ∧ vv = .int .i64 v ∧ wr = w1 ∧ 0 ≤ v ∧ v ≤ 1000 ∧ Hid (v = waitTo f g k ∧ late f g k = false)) (fun _ k _ => n - (intOf k).toNat)
  case atStart => exact ⟨0, 0, Nat.zero_le _, rfl, rfl, rfl, by omega, by omega, Lib.hid ⟨rfl, rfl⟩⟩
  case round =>
    obtain ⟨k, v, hk, rfl, rfl, rfl, v1, v2, HV⟩ := hrel
    by_cases hlt : k < n
    · have c1 := CF.out wr HW.out k hlt
      obtain ⟨u, hu⟩ : ∃ u, first g (am f k) = u := ⟨_, rfl⟩
      have hu2 : u ≤ n := by rw [HN.out, ← hu]; exact first_le
      have BC := Lib.hid (BS.out wr HW.out (am f k) u hu)
      have HE := Lib.hid (show waitTo f g (k + 1) = if v < (u : Int) - k then (u : Int) - k else v by rw [HV.out.1, ← hu]; rfl)
      have HU := Lib.hid hu
      clear hu
      generalize am f k = x at c1 BC
      by_cases hun : u = n
      · have t1 : ((u : Int) == (n : Int)) = true := by rw [beq_iff_eq]; omega
        have HB := Lib.hid (H5.out (late_iff.2 ⟨k, hlt, by rw [HU.out, hun, HN.out]⟩))
        clear hun
        go_wp2_with fail
        refine BC.out.mono ?_; rintro e w2 ⟨⟨Q, rfl⟩, rfl⟩
        go_wp2_with fail
        go_ret2
        exact ⟨by rw [HB.out.1, HB.out.2]; rfl, HW.out⟩
      · have t1 : ((u : Int) == (n : Int)) = false := by rw [beq_eq_false_iff_ne]; omega
        have HS := Lib.hid (show late f g (k + 1) = false from late_not.2 fun t' ht => by
          by_cases e : t' = k
          · rw [e, HU.out, ← HN.out]; omega
          · exact late_not.1 HV.out.2 t' (by omega))
        go_wp2_with fail
        refine BC.out.mono ?_; rintro e w2 ⟨⟨Q, rfl⟩, rfl⟩
        go_wp2_with fail
        all_goals
          go_roundw
          case rel => exact ⟨k + 1, _, by omega, by first | rfl | go_num, by first | rfl | go_num, by first | trivial | rfl, by omega, by omega, Lib.hid ⟨by have he := HE.out; first | exact he.symm | (split at he <;> omega), HS.out⟩⟩
          case measure => simp [intOf]; omega
    · obtain rfl : k = n := by omega
      have HB := Lib.hid (H0.out HV.out.2)
      go_wp2_with fail
      go_ret2
      exact ⟨by rw [HB.out.1, HB.out.2, HV.out.1]; rfl, HW.out⟩
theorem wait_any (p q : Option Addr) (cp cq n m : Nat) (f g : List Int) (w : World) (hn : n = f.length) (hm : m = g.length) (hf : Ints w p cp f) (hg : Ints w q cq g) (c : Int) (hc : lates f g = c) (v : Int) (hv : (if c = 0 then waitTo f g n else 0) = v) : Calls Tryd.prog 15 #[.slice p n cp, .slice q m cq] w fun e w' => e = .returned (.tuple #[.int .i64 v, er c]) ∧ ∃ m, w' = w.drewN m := by
  unfold lates at hc
  by_cases h0 : two f g = 0
  · rw [if_neg (fun h => h h0)] at hc
    obtain ⟨gf, gg, hl⟩ := two_zero.1 h0
    obtain rfl : n = m := by rw [hn, hm, hl]
    obtain ⟨b1, o1, rfl⟩ := at_some hf gf.pos
    obtain ⟨b2, o2, rfl⟩ := at_some hg gg.pos
    rw [← hn] at hc
    refine wait_good _ _ _ _ _ _ n f g w hn hm hf hg gf gg v (er c) (fun hL => ?_) (fun hL => ?_)
    · rw [if_pos hL] at hc
      subst hc
      rw [if_neg (by decide)] at hv
      exact ⟨hv.symm, rfl⟩
    · rw [if_neg (by rw [hL]; decide)] at hc
      subst hc
      rw [if_pos rfl] at hv
      exact ⟨hv.symm, rfl⟩
  · rw [if_pos h0] at hc
    rw [if_neg (by rw [← hc]; exact h0)] at hv
    subst hv
    exact wait_bad p q cp cq n m f g w hn hm hf hg c hc (by rw [← hc]; exact h0)
end Go.Proofs.YtfinfdcpepiadaaDoor.Curve
