/- The document's answers on curves. No statement is proved here. -/
import Derived.Test.YtfinfdcpepiadaaDoorCurve2
import Derived.Test.YtfinfdcpepiadaaDoorOwnI
import Derived.Test.YtfinfdcpepiadaaDoorAll
import Derived.Test.YtfinfdcpepiadaaDoorLeast2
import Derived.Test.YtfinfdcpepiadaaDoorMost2
namespace Go.Proofs.YtfinfdcpepiadaaDoor.Curve
open Go.ChangeShapes Go.WideShapes Go.ChangeAt Go.RowKit Go.Proofs.YtfinfdcpepiadaaDoor.Kit Go.Proofs.YtfinfdcpepiadaaDoor.App Go.Proofs.YtfinfdcpepiadaaDoor.Err
set_option linter.unusedVariables false
set_option maxRecDepth 20000
set_option maxHeartbeats 2000000

theorem rone_any (p : Option Addr) (cap n : Nat) (l : List Int) (w : World) (hn : n = l.length) (hi : Ints w p cap l) (c : Int) (hc : one l = c) :
    Calls Tryd.prog 6 #[.slice p n cap] w fun e w' => e = .returned (.int .i64 c) ∧ ∃ m, w' = w.drewN m := by
  have hlen := hi.len_le
  rw [← hn] at hlen
  unfold one at hc
  rw [← hn] at hc
  by_cases h0 : n = 0
  · have t0 : ((n : Int) == 0) = true := by rw [beq_iff_eq]; omega
    rw [if_pos h0] at hc
    subst hc
    clear hn hi h0
    go_enter Tryd.func6, Tryd.ntmps6
    go_wp2_with fail
    go_ret
    exact ⟨rfl, 0, rfl⟩
  have t0 : ((n : Int) == 0) = false := by rw [beq_eq_false_iff_ne]; omega
  rw [if_neg h0] at hc
  by_cases h1 : 16 < n
  · have t1 : decide ((n : Int) > 16) = true := decide_eq_true (by omega)
    rw [if_pos h1] at hc
    subst hc
    clear hn hi h0
    go_enter Tryd.func6, Tryd.ntmps6
    go_wp2_with fail
    go_ret
    exact ⟨rfl, 0, rfl⟩
  have t1 : decide ((n : Int) > 16) = false := decide_eq_false (by omega)
  rw [if_neg h1] at hc
  obtain ⟨R, hR⟩ : ∃ R, R = fits l := ⟨_, rfl⟩
  rw [← hR] at hc
  have CT := Lib.hid (all_any 0 1000 p cap n l w hn hi R hR)
  cases R with
  | false =>
    rw [if_pos rfl] at hc
    subst hc
    clear hn hi h0 h1 hR
    go_enter Tryd.func6, Tryd.ntmps6
    go_wp2_with fail
    refine CT.out.mono ?_; rintro e w1 ⟨rfl, rfl⟩
    go_wp2_with fail
    go_ret
    exact ⟨rfl, 0, rfl⟩
  | true =>
    rw [if_neg (by decide)] at hc
    obtain ⟨b, off, rfl, _, hcs⟩ := hi.2.2.2 (by omega)
    have HC := Lib.hid hcs
    have HN := Lib.hid hn
    have HR := Lib.hid hc
    have hn1 : 1 ≤ n := by omega
    clear hi hn hcs hc hR h0
    go_enter Tryd.func6, Tryd.ntmps6
    go_wp2_with fail
    refine CT.out.mono ?_; rintro e w1 ⟨rfl, rfl⟩
    clear CT
    go_wp2_with fail
    go_loopw [3] (fun iv wr => ∃ k : Nat, 1 ≤ k ∧ k ≤ n ∧ iv = .int .i64 k ∧ Hid (∃ m, wr = w.drewN m) ∧ Hid (∀ j : Nat, j + 1 < k → am l j ≤ am l (j + 1))) (fun i _ => n - (intOf i).toNat)
    case atStart => exact ⟨1, Nat.le_refl _, hn1, rfl, Lib.hid ⟨0, rfl⟩, Lib.hid (fun j h1 => by omega)⟩
    case round =>
      obtain ⟨k, hk1, hk, rfl, HD, H⟩ := hrel
      by_cases hkn : k < n
      · have u1 : decide ((k : Int) < (n : Int)) = true := decide_eq_true (by omega)
        obtain ⟨j, hj⟩ : ∃ j, k = j + 1 := ⟨k - 1, by omega⟩
        have hj1 : (k : Int) - 1 = (j : Int) := by omega
        have hjn : (j : Int) < (n : Int) := by omega
        have c1 : wr.cell? ⟨b, off + k, none⟩ = some (.int .i64 (am l k)) := by
          obtain ⟨m, rfl⟩ := HD.out
          exact HC.out k (by rw [← HN.out]; exact hkn)
        have c2 : wr.cell? ⟨b, off + j, none⟩ = some (.int .i64 (am l j)) := by
          obtain ⟨m, rfl⟩ := HD.out
          exact HC.out j (by rw [← HN.out]; omega)
        obtain ⟨x, hx⟩ : ∃ x, am l k = x := ⟨_, rfl⟩
        obtain ⟨y, hy⟩ : ∃ y, am l j = y := ⟨_, rfl⟩
        rw [hx] at c1
        rw [hy] at c2
        have HX := Lib.hid (And.intro hx hy)
        have HJ := Lib.hid hj
        clear hx hy hj
        by_cases hxy : x < y
        · have u2 : decide (y > x) = true := decide_eq_true hxy
          have HB := Lib.hid (show c = 3 by
            have hJ := HJ.out
            rw [← HR.out, if_pos (up_false (k := j) (by rw [← hJ, ← HN.out]; exact hkn) (by rw [← hJ, HX.out.1, HX.out.2]; exact hxy))])
          clear hxy
          go_wp2_with fail
          go_quiet (fail)
          go_wp2_with fail
          go_ret
          exact ⟨by rw [HB.out]; rfl, by obtain ⟨m, rfl⟩ := HD.out; exact ⟨m + nq, World.drewN_drewN ..⟩⟩
        · have u2 : decide (y > x) = false := decide_eq_false hxy
          have H2 := Lib.hid (show ∀ i : Nat, i + 1 < k + 1 → am l i ≤ am l (i + 1) from fun i h1 => by
            have hJ := HJ.out
            by_cases e : i = j
            · rw [e, ← hJ, HX.out.1, HX.out.2]; omega
            · exact H.out i (by omega))
          clear hxy
          go_wp2_with fail
          go_quiet (fail)
          go_wp2_with fail
          go_roundw
          case rel => exact ⟨k + 1, by omega, by omega, by first | rfl | go_num, Lib.hid (by obtain ⟨m, rfl⟩ := HD.out; exact ⟨m + nq, World.drewN_drewN ..⟩), H2⟩
          case measure => simp [intOf]; omega
      · obtain rfl : k = n := by omega
        have u1 : decide ((k : Int) < (k : Int)) = false := decide_eq_false (by omega)
        have HB := Lib.hid (show c = 0 by
          rw [← HR.out, if_neg (by rw [up_iff.2 (by rw [← HN.out]; exact H.out)]; decide)])
        go_wp2_with fail
        go_ret
        exact ⟨by rw [HB.out]; rfl, HD.out⟩
theorem rtwo_any (p q : Option Addr) (cp cq n m : Nat) (f g : List Int) (w : World) (hn : n = f.length) (hm : m = g.length) (hf : Ints w p cp f) (hg : Ints w q cq g) (c : Int) (hc : two f g = c) :
    Calls Tryd.prog 7 #[.slice p n cp, .slice q m cq] w fun e w' => e = .returned (.int .i64 c) ∧ ∃ m, w' = w.drewN m := by
  obtain ⟨a, ha⟩ : ∃ a, one f = a := ⟨_, rfl⟩
  obtain ⟨b, hb⟩ : ∃ b, one g = b := ⟨_, rfl⟩
  have CF := Lib.hid (rone_any p cp n f w hn hf a ha)
  have CG := Lib.hid (fun i => rone_any q cq m g (w.drewN i) hm (hg.below (bdrewN (brefl w) i)) b hb)
  have l1 := hf.len_le
  have l2 := hg.len_le
  unfold two at hc
  rw [← hn, ← hm, ha, hb] at hc
  rw [← hn] at l1
  rw [← hm] at l2
  clear hn hm hf hg ha hb
  by_cases h1 : a = 0
  · have t1 : (a == 0) = true := by rw [h1]; rfl
    rw [if_neg (fun h => h h1)] at hc
    subst h1
    by_cases h2 : b = 0
    · subst h2
      rw [if_neg (fun h => h rfl)] at hc
      by_cases h3 : n = m
      · rw [if_neg (fun h => h h3)] at hc
        subst h3
        subst hc
        have t3 : ((n : Int) != (n : Int)) = false := by simp
        go_enter Tryd.func7, Tryd.ntmps7
        go_wp2_with fail
        refine CF.out.mono ?_; rintro e w1 ⟨rfl, i, rfl⟩
        go_wp2_with fail
        refine (CG.out _).mono ?_; rintro e w2 ⟨rfl, j, rfl⟩
        go_wp2_with fail
        go_ret
        exact ⟨rfl, _, rfl⟩
      · rw [if_pos h3] at hc
        subst hc
        have t3 : ((n : Int) != (m : Int)) = true := by rw [bne_iff_ne]; omega
        go_enter Tryd.func7, Tryd.ntmps7
        go_wp2_with fail
        refine CF.out.mono ?_; rintro e w1 ⟨rfl, i, rfl⟩
        go_wp2_with fail
        refine (CG.out _).mono ?_; rintro e w2 ⟨rfl, j, rfl⟩
        go_wp2_with fail
        go_ret
        exact ⟨rfl, _, rfl⟩
    · rw [if_pos h2] at hc
      subst hc
      have t2 : (b == 0) = false := by rw [beq_eq_false_iff_ne]; exact h2
      clear h2
      go_enter Tryd.func7, Tryd.ntmps7
      go_wp2_with fail
      refine CF.out.mono ?_; rintro e w1 ⟨rfl, i, rfl⟩
      go_wp2_with fail
      refine (CG.out _).mono ?_; rintro e w2 ⟨rfl, j, rfl⟩
      go_wp2_with fail
      go_ret
      exact ⟨rfl, _, rfl⟩
  · rw [if_pos h1] at hc
    subst hc
    have t1 : (a == 0) = false := by rw [beq_eq_false_iff_ne]; exact h1
    clear h1
    go_enter Tryd.func7, Tryd.ntmps7
    go_wp2_with fail
    refine CF.out.mono ?_; rintro e w1 ⟨rfl, i, rfl⟩
    go_wp2_with fail
    go_ret
    exact ⟨rfl, _, rfl⟩
theorem rback_good (bf of bg og cf cg n : Nat) (f g : List Int) (w : World) (hn : n = f.length) (hm : n = g.length) (hf : Ints w (some ⟨bf, of, none⟩) cf f) (hg : Ints w (some ⟨bg, og, none⟩) cg g) (gf : Good f) (gg : Good g) (v : Int) (hv : backTo f g n = v) : Calls Tryd.prog 9 #[.slice (some ⟨bf, of, none⟩) n cf, .slice (some ⟨bg, og, none⟩) n cg] w fun e w' => e = .returned (.int .i64 v) ∧ ∃ m, w' = w.drewN m := by
  have h1 := gf.pos
  have h2 := gf.len
  rw [← hn] at h1 h2
  have CF := Lib.hid (fun W (hW : Below w.heap.size w W) k (hk : k < n) => cell_at (hf.below hW) k (by rw [← hn]; exact hk))
  have CG := Lib.hid (fun W (hW : Below w.heap.size w W) k (hk : k < n) => cell_at (hg.below hW) k (by rw [← hm]; exact hk))
  have GF := Lib.hid gf
  have GG := Lib.hid gg
  have MO := Lib.hid most2_any
  have HV0 := Lib.hid hv
  clear hn hm hf hg gf gg hv
  go_enter Tryd.func9, Tryd.ntmps9
  go_wp2_with fail
  go_loopw [5, 6] (fun vv kv wr => ∃ (k : Nat) (v : Int), k ≤ n ∧ kv = .int .i64 k ∧ vv = .int .i64 v ∧ Hid (∃ m, wr = w.drewN m) ∧ 0 ≤ v ∧ v ≤ 1000 ∧ Hid (v = backTo f g k)) (fun _ k _ => n - (intOf k).toNat)
  case atStart => exact ⟨0, 0, Nat.zero_le _, rfl, rfl, Lib.hid ⟨0, rfl⟩, by omega, by omega, Lib.hid rfl⟩
  case round =>
    obtain ⟨k, u, hk, rfl, rfl, HD, v1, v2, HV⟩ := hrel
    by_cases hlt : k < n
    · have u1 : decide ((k : Int) < (n : Int)) = true := decide_eq_true (by omega)
      have hB : Below w.heap.size w wr := by obtain ⟨m, rfl⟩ := HD.out; exact bdrewN (brefl w) m
      have c1 := CF.out wr hB k hlt
      have c2 := CG.out wr hB k hlt
      have a1 := GF.out.num k
      have a2 := GG.out.num k
      obtain ⟨z, hz⟩ : ∃ z, backTo f g (k + 1) = z := ⟨_, rfl⟩
      have C := Lib.hid (fun W => MO.out u (am f k - am g k) W z (by
        rw [← hz, HV.out]
        show _ = if backTo f g k < am f k - am g k then am f k - am g k else backTo f g k
        split <;> split <;> omega))
      have hz2 := back_num (f := f) (g := g) (k := k + 1) GF.out GG.out
      rw [hz] at hz2
      have HZ := Lib.hid hz.symm
      clear hB hz
      generalize am f k = x at c1 a1 C
      generalize am g k = y at c2 a2 C
      obtain ⟨x1, x2⟩ := a1
      obtain ⟨y1, y2⟩ := a2
      have hw := wrap_in (n := x - y) (by omega)
      go_wp2_with fail
      go_quiet ((go_at_call 23; refine Calls.quiet_of_same (C.out _)))
      go_wp2_with fail
      go_roundw
      case rel => exact ⟨k + 1, z, by omega, by first | rfl | go_num, rfl, Lib.hid (by obtain ⟨m, rfl⟩ := HD.out; exact ⟨m + nq, World.drewN_drewN ..⟩), hz2.1, hz2.2, HZ⟩
      case measure => simp [intOf]; omega
    · obtain rfl : k = n := by omega
      have HB := Lib.hid (HV.out.trans HV0.out)
      go_wp2_with fail
      go_ret
      exact ⟨by rw [HB.out]; rfl, HD.out⟩
theorem runder_good (bf of bg og cf cg n : Nat) (f g : List Int) (w : World) (hn : n = f.length) (hm : n = g.length) (hf : Ints w (some ⟨bf, of, none⟩) cf f) (hg : Ints w (some ⟨bg, og, none⟩) cg g) (gf : Good f) (gg : Good g) (R : Bool) (hR : under f g = R) : Calls Tryd.prog 10 #[.slice (some ⟨bf, of, none⟩) n cf, .slice (some ⟨bg, og, none⟩) n cg] w fun e w' => e = .returned (.bool R) ∧ ∃ m, w' = w.drewN m := by
  have h1 := gf.pos
  have h2 := gf.len
  rw [← hn] at h1 h2
  have CF := Lib.hid (fun W (hW : Below w.heap.size w W) k (hk : k < n) => cell_at (hf.below hW) k (by rw [← hn]; exact hk))
  have CG := Lib.hid (fun W (hW : Below w.heap.size w W) k (hk : k < n) => cell_at (hg.below hW) k (by rw [← hm]; exact hk))
  have GF := Lib.hid gf
  have GG := Lib.hid gg
  have HR := Lib.hid hR
  have HN := Lib.hid hn
  clear hn hm hf hg gf gg hR
  go_enter Tryd.func10, Tryd.ntmps10
  go_wp2_with fail
  go_loopw [5] (fun sv wr => ∃ s : Nat, s ≤ n ∧ sv = .int .i64 s ∧ Hid (∃ m, wr = w.drewN m) ∧ Hid (∀ s', s' < s → ∀ t, s' ≤ t → t < n → am f t - am f s' ≤ am g (t - s'))) (fun s _ => n - (intOf s).toNat)
  case atStart => exact ⟨0, Nat.zero_le _, rfl, Lib.hid ⟨0, rfl⟩, Lib.hid (fun t' h => by omega)⟩
  case round =>
    obtain ⟨s, hs, rfl, HD, HS⟩ := hrel
    by_cases hsn : s < n
    · have u1 : decide ((s : Int) < (n : Int)) = true := decide_eq_true (by omega)
      go_wp2_with fail
      generalize wr = w3 at HD ⊢
      go_loopw [6] (fun tv wr => ∃ t : Nat, s ≤ t ∧ t ≤ n ∧ tv = .int .i64 t ∧ Hid (∃ m, wr = w.drewN m) ∧ Hid (∀ t', s ≤ t' → t' < t → am f t' - am f s ≤ am g (t' - s))) (fun t _ => n - (intOf t).toNat)
      case atStart => exact ⟨s, Nat.le_refl _, hs, rfl, HD, Lib.hid (fun s' h => by omega)⟩
      case round =>
        obtain ⟨t, hst, ht, rfl, HD2, HT⟩ := hrel
        clear HD
        by_cases htn : t < n
        · have u2 : decide ((t : Int) < (n : Int)) = true := decide_eq_true (by omega)
          have hB : Below w.heap.size w wr := by obtain ⟨m, rfl⟩ := HD2.out; exact bdrewN (brefl w) m
          have c1 := CF.out wr hB t htn
          have c2 := CF.out wr hB s hsn
          have c3 := CG.out wr hB (t - s) (by omega)
          obtain ⟨d, hd⟩ : ∃ d, t - s = d := ⟨_, rfl⟩
          have hd2 : (t : Int) - (s : Int) = (d : Int) := by omega
          have hd3 : (d : Int) < (n : Int) := by omega
          have a1 := GF.out.num t
          have a2 := GF.out.num s
          have a3 := GG.out.num d
          rw [hd] at c3
          obtain ⟨x, hx⟩ : ∃ x, am f t = x := ⟨_, rfl⟩
          obtain ⟨y, hy⟩ : ∃ y, am f s = y := ⟨_, rfl⟩
          obtain ⟨z, hz⟩ : ∃ z, am g d = z := ⟨_, rfl⟩
          rw [hx] at c1 a1
          rw [hy] at c2 a2
          rw [hz] at c3 a3
          have HY := Lib.hid (And.intro hd (And.intro hx (And.intro hy hz)))
          obtain ⟨x1, x2⟩ := a1
          obtain ⟨y1, y2⟩ := a2
          obtain ⟨z1, z2⟩ := a3
          have hw := wrap_in (n := x - y) (by omega)
          clear hd hx hy hz hB
          by_cases hgt : z < x - y
          · have u3 : decide (x - y > z) = true := decide_eq_true (by omega)
            have HB := Lib.hid (show R = false by
              rw [← HR.out]
              exact under_false (by rw [← HN.out]; exact htn) hst (by rw [HY.out.1, HY.out.2.1, HY.out.2.2.1, HY.out.2.2.2]; exact hgt))
            clear hgt
            go_wp2_with fail
            go_quiet (fail)
            go_wp2_with fail
            go_ret
            exact ⟨by rw [HB.out]; rfl, by obtain ⟨m, rfl⟩ := HD2.out; exact ⟨m + nq, World.drewN_drewN ..⟩⟩
          · have u3 : decide (x - y > z) = false := decide_eq_false (by omega)
            have HT2 := Lib.hid (show ∀ t', s ≤ t' → t' < t + 1 → am f t' - am f s ≤ am g (t' - s) from fun t' h1 h2 => by
              by_cases e : t' = t
              · rw [e, HY.out.1, HY.out.2.1, HY.out.2.2.1, HY.out.2.2.2]; omega
              · exact HT.out t' h1 (by omega))
            clear hgt
            go_wp2_with fail
            go_quiet (fail)
            go_wp2_with fail
            go_roundw
            case rel => exact ⟨t + 1, by omega, by omega, by first | rfl | go_num, Lib.hid (by obtain ⟨m, rfl⟩ := HD2.out; exact ⟨m + nq, World.drewN_drewN ..⟩), HT2⟩
            case measure => simp [intOf]; omega
        · obtain rfl : t = n := by omega
          have u2 : decide ((t : Int) < (t : Int)) = false := decide_eq_false (by omega)
          go_wp2_with fail
          go_roundw
          case rel => exact ⟨s + 1, by omega, by first | rfl | go_num, HD2, Lib.hid (fun s' h1 t' h2 h3 => by
            by_cases e : s' = s
            · subst e; exact HT.out t' h2 h3
            · exact HS.out s' (by omega) t' h2 h3)⟩
          case measure => simp [intOf]; omega
    · obtain rfl : s = n := by omega
      have u1 : decide ((s : Int) < (s : Int)) = false := decide_eq_false (by omega)
      have HB := Lib.hid (show R = true by
        rw [← HR.out]
        exact under_iff.2 (by rw [← HN.out]; exact fun t h1 s' h2 => HS.out s' (by omega) t h2 h1))
      go_wp2_with fail
      go_ret
      exact ⟨by rw [HB.out]; rfl, HD.out⟩
theorem rwait_good (bf of bg og cf cg n : Nat) (f g : List Int) (w : World) (hn : n = f.length) (hm : n = g.length) (hf : Ints w (some ⟨bf, of, none⟩) cf f) (hg : Ints w (some ⟨bg, og, none⟩) cg g) (gf : Good f) (gg : Good g) (a c : Int) (h5 : late f g n = true → a = 0 ∧ c = 5) (h0 : late f g n = false → a = waitTo f g n ∧ c = 0) : Calls Tryd.prog 11 #[.slice (some ⟨bf, of, none⟩) n cf, .slice (some ⟨bg, og, none⟩) n cg] w fun e w' => e = .returned (.tuple #[.int .i64 a, .int .i64 c]) ∧ ∃ m, w' = w.drewN m := by
  have h1 := gf.pos
  have h2 := gf.len
  rw [← hn] at h1 h2
  have CF := Lib.hid (fun W (hW : Below w.heap.size w W) k (hk : k < n) => cell_at (hf.below hW) k (by rw [← hn]; exact hk))
  have CG := Lib.hid (fun W (hW : Below w.heap.size w W) k (hk : k < n) => cell_at (hg.below hW) k (by rw [← hm]; exact hk))
  have GF := Lib.hid gf
  have GG := Lib.hid gg
  have MO := Lib.hid most2_any
  have H5 := Lib.hid h5
  have H0 := Lib.hid h0
  have HN := Lib.hid hm
  clear hn hm hf hg gf gg h5 h0
  go_enter Tryd.func11, Tryd.ntmps11
  go_wp2_with fail
  go_loopw [6, 7] (fun vv kv wr => ∃ (k : Nat) (v : Int), k ≤ n ∧ kv = .int .i64 k ∧ vv = .int .i64 v ∧ Hid (∃ m, wr = w.drewN m) ∧ 0 ≤ v ∧ v ≤ 1000 ∧ Hid (v = waitTo f g k ∧ late f g k = false)) (fun _ k _ => n - (intOf k).toNat)
  case atStart => exact ⟨0, 0, Nat.zero_le _, rfl, rfl, Lib.hid ⟨0, rfl⟩, by omega, by omega, Lib.hid ⟨rfl, rfl⟩⟩
  case round =>
    obtain ⟨k, v, hk, rfl, rfl, HD, v1, v2, HV⟩ := hrel
    by_cases hkn : k < n
    · have u1 : decide ((k : Int) < (n : Int)) = true := decide_eq_true (by omega)
      obtain ⟨x, hx⟩ : ∃ x, am f k = x := ⟨_, rfl⟩
      obtain ⟨u, hu⟩ : ∃ u, first g x = u := ⟨_, rfl⟩
      have hun : u ≤ n := by rw [HN.out, ← hu]; exact first_le
      have HU := Lib.hid (And.intro hx hu)
      clear hx hu
      go_wp2_with fail
      generalize wr = w3 at HD ⊢
      go_loopw [8] (fun jv wr => ∃ j : Nat, k ≤ j ∧ j ≤ n ∧ (j ≤ u ∨ j = k) ∧ jv = .int .i64 j ∧ Hid (∃ m, wr = w.drewN m)) (fun j _ => n - (intOf j).toNat)
      case atStart => exact ⟨k, Nat.le_refl _, hk, .inr rfl, rfl, HD⟩
      case round =>
        obtain ⟨j, hkj, hjn, hju, rfl, HD2⟩ := hrel
        clear HD
        have hB : Below w.heap.size w wr := by obtain ⟨m, rfl⟩ := HD2.out; exact bdrewN (brefl w) m
        have c1 := CF.out wr hB k hkn
        rw [HU.out.1] at c1
        by_cases hju2 : j < u
        · have u2 : decide ((j : Int) < (n : Int)) = true := decide_eq_true (by omega)
          have hj3 : (j : Int) < (n : Int) := by omega
          have c2 := CG.out wr hB j (by omega)
          have hlt : am g j < x := first_below (by rw [HU.out.2]; exact hju2)
          generalize am g j = y at c2 hlt
          have u3 : decide (y < x) = true := decide_eq_true hlt
          clear hlt hB
          go_wp2_with fail
          go_quiet (fail)
          go_wp2_with fail
          go_roundw
          case rel => exact ⟨j + 1, by omega, by omega, by omega, by first | rfl | go_num, Lib.hid (by obtain ⟨m, rfl⟩ := HD2.out; exact ⟨m + nq, World.drewN_drewN ..⟩)⟩
          case measure => simp [intOf]; omega
        · by_cases hj2 : j < n
          · have u2 : decide ((j : Int) < (n : Int)) = true := decide_eq_true (by omega)
            have hj3 : (j : Int) < (n : Int) := by omega
            have c2 := CG.out wr hB j hj2
            have hge : x ≤ am g j := Int.le_trans (first_at (g := g) (x := x) (by rw [HU.out.2, ← HN.out]; omega)) (GG.out.up _ _ (by rw [HU.out.2]; omega) (by rw [← HN.out]; exact hj2))
            have t4 : ((j : Int) == (n : Int)) = false := by rw [beq_eq_false_iff_ne]; omega
            have HS := Lib.hid (show late f g (k + 1) = false from late_not.2 fun t' ht => by
              by_cases e : t' = k
              · rw [e, HU.out.1, HU.out.2, ← HN.out]; omega
              · exact late_not.1 HV.out.2 t' (by omega))
            obtain ⟨z, hz⟩ : ∃ z, waitTo f g (k + 1) = z := ⟨_, rfl⟩
            have C := Lib.hid (fun W => MO.out v ((j : Int) - (k : Int)) W z (by
              rw [← hz]
              have e1 : waitTo f g (k + 1) = if v < (u : Int) - k then (u : Int) - k else v := by rw [HV.out.1, ← HU.out.2, ← HU.out.1]; rfl
              rw [e1]
              split <;> split <;> omega))
            have hz2 : 0 ≤ z ∧ z ≤ 1000 := by
              rw [← hz]
              have := wait_num (f := f) (g := g) (k := k + 1)
              have := GG.out.len
              omega
            have HZ := Lib.hid hz.symm
            clear hz
            generalize am g j = y at c2 hge
            have u3 : decide (y < x) = false := decide_eq_false (by omega)
            have hw := wrap_in (n := (j : Int) - (k : Int)) (by omega)
            clear hge hB
            go_wp2_with fail
            go_quiet (fail)
            go_wp2_with fail
            refine (C.out _).mono ?_; rintro e w4 ⟨rfl, rfl⟩
            go_wp2_with fail
            go_roundw
            case rel => exact ⟨k + 1, z, by omega, by first | rfl | go_num, rfl, Lib.hid (by obtain ⟨m, rfl⟩ := HD2.out; exact ⟨m + nq, World.drewN_drewN ..⟩), hz2.1, hz2.2, Lib.hid ⟨HZ.out, HS.out⟩⟩
            case measure => simp [intOf]; omega
          · obtain rfl : j = n := by omega
            have u2 : decide ((j : Int) < (j : Int)) = false := decide_eq_false (by omega)
            have t4 : ((j : Int) == (j : Int)) = true := by simp
            have HB := Lib.hid (H5.out (late_iff.2 ⟨k, hkn, by rw [HU.out.1, HU.out.2, ← HN.out]; omega⟩))
            clear hB
            go_wp2_with fail
            go_quiet (fail)
            go_wp2_with fail
            go_ret2
            exact ⟨by rw [HB.out.1, HB.out.2]; rfl, by obtain ⟨m, rfl⟩ := HD2.out; exact ⟨m + nq, World.drewN_drewN ..⟩⟩
    · obtain rfl : k = n := by omega
      have u1 : decide ((k : Int) < (k : Int)) = false := decide_eq_false (by omega)
      have HB := Lib.hid (H0.out HV.out.2)
      go_wp2_with fail
      go_ret2
      exact ⟨by rw [HB.out.1, HB.out.2, HV.out.1]; rfl, HD.out⟩
theorem rfold_good (bf of bg og cf cg n : Nat) (f g : List Int) (w : World) (hn : n = f.length) (hm : n = g.length) (hf : Ints w (some ⟨bf, of, none⟩) cf f) (hg : Ints w (some ⟨bg, og, none⟩) cg g) (gf : Good f) (gg : Good g) (base : Nat) (hbase : w.heap.size = base) : Calls Tryd.prog 8 #[.slice (some ⟨bf, of, none⟩) n cf, .slice (some ⟨bg, og, none⟩) n cg] w fun e w' => (∃ q cq, e = .returned (.slice q n cq) ∧ Ints w' q cq (foldTo f g n)) ∧ Below base w w' := by
  have h1 := gf.pos
  have h2 := gf.len
  rw [← hn] at h1 h2
  have CF := Lib.hid (fun W (hW : Below w.heap.size w W) k (hk : k < n) => cell_at (hf.below hW) k (by rw [← hn]; exact hk))
  have CG := Lib.hid (fun W (hW : Below w.heap.size w W) k (hk : k < n) => cell_at (hg.below hW) k (by rw [← hm]; exact hk))
  have GF := Lib.hid gf
  have GG := Lib.hid gg
  have LE := Lib.hid least2_any
  rw [hbase] at CF CG
  have HO0 := Lib.hid (show OwnI w base (.slice none 0 0) (foldTo f g 0) from OwnI.nil w base)
  have HB0 := Lib.hid (show Below base w w by rw [← hbase]; exact brefl w)
  have HSZ := Lib.hid (Nat.le_of_eq hbase.symm)
  clear hn hm hf hg gf gg hbase
  go_enter Tryd.func8, Tryd.ntmps8
  go_wp2_with fail
  go_loopw [5, 6] (fun av tv wr => ∃ (t : Nat) (vv : Value), vv = av ∧ t ≤ n ∧ tv = .int .i64 t ∧ Hid (OwnI wr base vv (foldTo f g t)) ∧ Hid (Below base w wr)) (fun _ t _ => n - (intOf t).toNat)
  case atStart => exact ⟨0, _, rfl, Nat.zero_le _, rfl, HO0, HB0⟩
  case round =>
    obtain ⟨t, vv, rfl, ht, rfl, HO, HB⟩ := hrel
    clear HO0 HB0
    by_cases hlt : t < n
    · have u1 : decide ((t : Int) < (n : Int)) = true := decide_eq_true (by omega)
      have c0 := CF.out wr HB.out t hlt
      have c1 := CG.out wr HB.out 0 (by omega)
      rw [Nat.add_zero] at c1
      have a0 := GF.out.num t
      have a1 := GG.out.num 0
      have HP0 := Lib.hid (show Part f g t 0 (am f t + am g 0) from ⟨⟨t, Nat.le_refl _, by rw [Nat.sub_self]⟩, fun s hs => absurd hs (Nat.not_lt_zero _)⟩)
      have HQ := Lib.hid (rfl : am f t + am g 0 = am f t + am g 0)
      obtain ⟨x0, hx0⟩ : ∃ x0, am f t = x0 := ⟨_, rfl⟩
      obtain ⟨y0, hy0⟩ : ∃ y0, am g 0 = y0 := ⟨_, rfl⟩
      clear HQ
      have HQ := Lib.hid (And.intro hx0 hy0)
      rw [hx0, hy0] at HP0
      rw [hx0] at c0 a0
      rw [hy0] at c1 a1
      obtain ⟨p1, p2⟩ := a0
      obtain ⟨p3, p4⟩ := a1
      have hw := wrap_in (n := x0 + y0) (by omega)
      clear hx0 hy0
      go_wp2_with fail
      go_quiet (fail)
      go_wp2_with fail
      have HO1 := Lib.hid (show OwnI (wr.drewN nq) base vv (foldTo f g t) from HO.out)
      have HB1 := Lib.hid (show Below base w (wr.drewN nq) from below_drewN HB.out nq)
      clear HO HB c0 c1
      generalize wr.drewN nq = w3 at HO1 HB1 ⊢
      go_loopw [7, 8] (fun mv sv wr => ∃ (s : Nat) (m : Int), s ≤ t ∧ sv = .int .i64 s ∧ mv = .int .i64 m ∧ Hid (Part f g t s m ∧ m ≤ x0 + y0) ∧ Hid (OwnI wr base vv (foldTo f g t)) ∧ Hid (Below base w wr)) (fun _ s _ => t - (intOf s).toNat)
      case atStart => exact ⟨0, x0 + y0, Nat.zero_le _, rfl, by first | rfl | go_num, Lib.hid ⟨HP0.out, Int.le_refl _⟩, HO1, HB1⟩
      case round =>
        obtain ⟨s, m, hs2, rfl, rfl, HP, HO2, HB2⟩ := hrel
        clear HP0 HO1 HB1
        have hm := part_num GF.out GG.out HP.out.1
        obtain ⟨m1, m2⟩ := hm
        by_cases hst : s < t
        · have u2 : decide ((s : Int) < (t : Int)) = true := decide_eq_true (by omega)
          have c0 := CF.out wr HB2.out s (by omega)
          have c1 := CG.out wr HB2.out (t - s) (by omega)
          have a0 := GF.out.num s
          have a1 := GG.out.num (t - s)
          obtain ⟨m', hm'⟩ : ∃ m', (if am f s + am g (t - s) < m then am f s + am g (t - s) else m) = m' := ⟨_, rfl⟩
          have HP3 := Lib.hid (And.intro (part_step HP.out.1 (by omega) m' hm') (show m' ≤ x0 + y0 by have := HP.out.2; rw [← hm']; split <;> omega))
          have C := Lib.hid (fun W => LE.out m (am f s + am g (t - s)) W m' hm')
          obtain ⟨d, hd⟩ : ∃ d, t - s = d := ⟨_, rfl⟩
          have hd2 : (t : Int) - (s : Int) = (d : Int) := by omega
          have hd3 : (d : Int) < (n : Int) := by omega
          rw [hd] at c1 a1 C
          clear hm' hd
          generalize am f s = x at c0 a0 C
          generalize am g d = y at c1 a1 C
          obtain ⟨p5, p6⟩ := a0
          obtain ⟨p7, p8⟩ := a1
          have hw2 := wrap_in (n := x + y) (by omega)
          go_wp2_with fail
          go_quiet ((go_at_call 22; refine Calls.quiet_of_same (C.out _)))
          go_wp2_with fail
          go_roundw
          case rel => exact ⟨s + 1, m', by omega, by first | rfl | go_num, rfl, HP3, Lib.hid (show OwnI (wr.drewN nq) base vv _ from HO2.out), Lib.hid (below_drewN HB2.out nq)⟩
          case measure => simp [intOf]; omega
        · obtain rfl : s = t := by omega
          have u2 : decide ((s : Int) < (s : Int)) = false := decide_eq_false (by omega)
          have HLW := Lib.hid (show m = low f g s from part_low ⟨HP.out.1.1, fun j hj => by
            by_cases e : j = s
            · rw [e, Nat.sub_self, HQ.out.1, HQ.out.2]; exact HP.out.2
            · exact HP.out.1.2 j (by omega)⟩)
          have hwf : (Lit.int .i64 m).wf = true := by simp [Lit.wf, IntKind.min, IntKind.max, IntKind.signed, IntKind.bits]; omega
          have hB0 := Nat.le_trans HSZ.out HB2.out.size
          have HLN : Hid ((foldTo f g s).length ≤ 16) := Lib.hid (by rw [foldTo_len]; omega)
          go_wp2_with (first
            | (at_builtin
               refine wp_app rfl (.tmp 41) (.tmp 43) rfl base vv (foldTo f g s) (some ⟨wr.heap.size, 0, none⟩) 1 1 [m] rfl (HO2.out.alloc _) rfl rfl (Ints.one _ m hwf) (by have := HLN.out; simp at this ⊢; omega) (Nat.le_trans hB0 (by simp)) ?_
               intro v8 w8 ho8 hg8 hat8
               have HB8 := Lib.hid (below_one HB2.out hB0 _ HO2.out hg8)
               have HO8 := Lib.hid ho8
               clear ho8 hg8 hat8))
          go_wp2_with fail
          go_roundw
          case rel => exact ⟨s + 1, v8, rfl, by omega, by first | rfl | go_num, Lib.hid (by rw [foldTo_succ, ← HLW.out]; exact HO8.out), HB8⟩
          case measure => simp [intOf]; omega
    · obtain rfl : t = n := by omega
      have u1 : decide ((t : Int) < (t : Int)) = false := decide_eq_false (by omega)
      obtain ⟨pa, ca, rfl, hia⟩ := HO.out.form
      rw [foldTo_len]
      have HE := Lib.hid hia
      clear HO hia
      go_wp2_with fail
      go_ret
      exact ⟨⟨_, _, rfl, HE.out⟩, HB.out⟩
end Go.Proofs.YtfinfdcpepiadaaDoor.Curve
