/- The contract of slices.symMergeCmpFunc. No statement is proved here. -/
import Derived.Test.YtaflpdagehocfaaDoorSort3
namespace Go.Proofs.YtaflpdagehocfaaDoor.Srt
open Go.Proofs.YtaflpdagehocfaaDoor.Part
open Go.Shelf Go.RowKit Go.Lib Go.Sort Go.ChangeAt Go.Proofs.YtaflpdagehocfaaDoor.Kit
set_option linter.unusedVariables false
set_option maxRecDepth 100000

theorem pre_left2 {a s c : Nat} {f : Nat → Tg} (h : Pre a s c f) (e : s = a) : Inc a c f := by subst e; exact h.r
theorem pre_right2 {a s c : Nat} {f : Nat → Tg} (h : Pre a s c f) (e : s = c) : Inc a c f := by subst e; exact h.l

set_option maxHeartbeats 8000000 in
theorem sym_gen (blk off cap a m b sz : Nat) (d0 d : Array Tg) (w0 w : World) (hsz0 : sz = d.size) (R : RowK encT 3 w0 blk off d0) (hs : d0.size = d.size) (S : SWK encT 3 w0 blk off d w) (ham : a + 1 < m) (hmb : m + 1 < b) (hb : b ≤ d.size) (hsz : d.size ≤ 40) (hP : Pre a m b (fn d))
    (hIH : ∀ (a' m' b' : Nat) (d' : Array Tg) (w' : World), d'.size = sz → SWK encT 3 w0 blk off d' w' → a' < m' → m' < b' → b' ≤ sz → b' - a' < b - a → Pre a' m' b' (fn d') → Calls Tryd.prog 40 #[.slice (some ⟨blk, off, none⟩) sz cap, .int .i64 a', .int .i64 m', .int .i64 b', .func (.func 23) #[] #[]] w' fun e w'' => e = .returned (.tuple #[]) ∧ ∃ d'', SWK encT 3 w0 blk off d'' w'' ∧ d''.size = d'.size ∧ PermIn a' b' d' d'' ∧ Inc a' b' (fn d'')) :
    Calls Tryd.prog 40 #[.slice (some ⟨blk, off, none⟩) sz cap, .int .i64 a, .int .i64 m, .int .i64 b, .func (.func 23) #[] #[]] w fun e w' => e = .returned (.tuple #[]) ∧ ∃ d', SWK encT 3 w0 blk off d' w' ∧ d'.size = d.size ∧ PermIn a b d d' ∧ Inc a b (fn d') := by
  subst hsz0
  have HC : Aside _ := cmpLays blk off d0.size w0
  have IH : Aside _ := hIH
  have RO : Aside _ := @rotate_any
  have Z0 : Aside (SWK encT 3 w0 blk off d w) := S
  have P : Aside _ := hP
  have hmix := mixed
  have t1 : ((m : Int) - (a : Int) == 1) = false := by rw [beq_eq_false_iff_ne]; omega
  have t2 : ((b : Int) - (m : Int) == 1) = false := by rw [beq_eq_false_iff_ne]; omega
  obtain ⟨mid, hmid⟩ : ∃ mid, (a + b) / 2 = mid := ⟨_, rfl⟩
  have t3 : ((a : Int) + (b : Int)) / 2 = (mid : Int) := by omega
  obtain ⟨pn, hpn⟩ : ∃ pn, mid + m - 1 = pn := ⟨_, rfl⟩
  have t4 : (mid : Int) + (m : Int) - 1 = (pn : Int) := by omega
  clear S hP hIH
  go_enter Tryd.func40, Tryd.ntmps40
  by_cases hg : mid < m
  · have c0 : decide ((m : Int) > (mid : Int)) = true := decide_eq_true (by omega)
    obtain ⟨s0, hs0⟩ : ∃ s0, mid + m - b = s0 := ⟨_, rfl⟩
    have t5 : (mid : Int) + (m : Int) - (b : Int) = (s0 : Int) := by omega
    have hs1 : a ≤ s0 := by omega
    have hs2 : s0 ≤ mid := by omega
    have HM := Lib.hid (And.intro hmid (And.intro hpn hs0))
    clear hmid hpn hs0
    go_wp2_with fail
    go_loopg [20, 21] (mid - s0) (fun kx s1 s2 wr => ∃ st r : Nat, s1 = .int .i64 st ∧ s2 = .int .i64 r ∧ s0 ≤ st ∧ st ≤ r ∧ r ≤ mid ∧ r - st ≤ kx ∧ Aside (SWK encT 3 w0 blk off d wr) ∧ Hid ((∀ c, s0 ≤ c → c < st → (fn d c).1.pos ≤ (fn d (pn - c)).1.pos) ∧ (∀ c, r ≤ c → c < mid → (fn d (pn - c)).1.pos < (fn d c).1.pos)))
    case atStart => exact ⟨s0, mid, rfl, rfl, Nat.le_refl _, by omega, Nat.le_refl _, by omega, Z0, fun q h1 h2 => by omega, fun q h1 h2 => by omega⟩
    case round =>
      clear Z0
      obtain ⟨st, r, rfl, rfl, hst0, hstr, hr0, hkx, S1, HI⟩ := hrel
      by_cases hlt : st < r
      · have c1 : decide ((st : Int) < (r : Int)) = true := decide_eq_true (by omega)
        obtain ⟨c, hc⟩ : ∃ c, (st + r) / 2 = c := ⟨_, rfl⟩
        have t6 : ((st : Int) + (r : Int)) / 2 = (c : Int) := by omega
        have h1 : st ≤ c := by omega
        have h2 : c < r := by omega
        obtain ⟨q, hq⟩ : ∃ q, pn - c = q := ⟨_, rfl⟩
        have hqq : (pn : Int) - (c : Int) = (q : Int) ∧ c < d.size ∧ q < d.size ∧ m ≤ q ∧ q < b ∧ a ≤ c ∧ c < m ∧ c ≤ pn := by
          obtain ⟨e1, e2, e3⟩ := HM.out
          omega
        obtain ⟨t7, hcd, hqd, hq1, hq2, hq3, hq4, hq5⟩ := hqq
        have w7 : IntKind.i64.wrap (q : Int) = (q : Int) := by rw [IntKind.wrap_i64]; omega
        have HQ := Lib.hid hq
        clear hc hq
        obtain ⟨⟨⟨xp, xm, xs⟩, xt⟩, hx⟩ : ∃ x, d[q]! = x := ⟨_, rfl⟩
        obtain ⟨⟨⟨yp, ym, ys⟩, yt⟩, hy⟩ : ∃ x, d[c]! = x := ⟨_, rfl⟩
        have gx0 := fun n os => (at_grown S1.out R (show d.size = d0.size by omega) q (by omega) hx n os).1
        have gx1 := fun n os => (at_grown S1.out R (show d.size = d0.size by omega) q (by omega) hx n os).2.1
        have gx2 := fun n os => (at_grown S1.out R (show d.size = d0.size by omega) q (by omega) hx n os).2.2
        have gy0 := fun n os => (at_grown S1.out R (show d.size = d0.size by omega) c (by omega) hy n os).1
        have gy1 := fun n os => (at_grown S1.out R (show d.size = d0.size by omega) c (by omega) hy n os).2.1
        have gy2 := fun n os => (at_grown S1.out R (show d.size = d0.size by omega) c (by omega) hy n os).2.2
        simp only at gx0 gx1 gx2 gy0 gy1 gy2
        have hcg : ∀ n os, Calls Tryd.prog 23 #[.agg #[.int .i64 xp, .bool xm, .string xs], .agg #[.int .i64 yp, .bool ym, .string ys]] (grow (wr.drewN n) os) fun e w' => e = .returned (.int .i64 (cmpI xp yp)) ∧ ∃ q os', w' = grow ((grow (wr.drewN n) os).drewN q) os' := fun n os => S1.out.cmp HC.out (show d.size = d0.size by omega) ((⟨xp, xm, xs⟩, xt) : Tg) ((⟨yp, ym, ys⟩, yt) : Tg) n os
        obtain ⟨cv, hcv⟩ : ∃ c, cmpI xp yp = c := ⟨_, rfl⟩
        rw [hcv] at hcg
        have HCV := Lib.hid hcv
        have HX := Lib.hid hx
        have HY := Lib.hid hy
        clear hx hy hcv
        by_cases hlv : cv < 0
        · have c2 : decide (cv < 0) = true := decide_eq_true hlv
          go_wp2_with fail
          go_quiet_grown (refine Calls.grown_of (hcg _ _))
          go_wp2_with fail
          have S4 : Aside (SWK encT 3 w0 blk off d (grow (wr.drewN nq) osq)) := S1.out.grown nq osq
          go_roundg (c - st)
          case measure => omega
          case rel =>
            refine ⟨st, c, rfl, by go_num, hst0, h1, by omega, Nat.le_refl _, S4, HI.out.1, fun c' q1 q2 => ?_⟩
            have e1 : (fn d q).1.pos < (fn d c).1.pos := by
              have f1 : fn d q = _ := HX.out
              have f2 : fn d c = _ := HY.out
              rw [f1, f2]; exact (cmpI_neg _ _).1 (by rw [HCV.out]; exact hlv)
            rw [← HQ.out] at e1
            obtain ⟨m1, m2, m3⟩ := HM.out
            have := HQ.out
            exact search_no P.out hq3 q1 (by omega) (by omega) (by omega) (by omega) e1
        · have c2 : decide (cv < 0) = false := decide_eq_false hlv
          go_wp2_with fail
          go_quiet_grown (refine Calls.grown_of (hcg _ _))
          go_wp2_with fail
          have S4 : Aside (SWK encT 3 w0 blk off d (grow (wr.drewN nq) osq)) := S1.out.grown nq osq
          go_roundg (r - (c + 1))
          case measure => omega
          case rel =>
            refine ⟨c + 1, r, by go_num, rfl, by omega, by omega, hr0, Nat.le_refl _, S4, fun c' q1 q2 => ?_, HI.out.2⟩
            have e1 : (fn d c).1.pos ≤ (fn d q).1.pos := by
              have f1 : fn d q = _ := HX.out
              have f2 : fn d c = _ := HY.out
              rw [f1, f2]
              have := mt (cmpI_neg xp yp).2 (by rw [HCV.out]; omega)
              simp only; omega
            rw [← HQ.out] at e1
            obtain ⟨m1, m2, m3⟩ := HM.out
            have := HQ.out
            exact search_yes P.out (by omega) (by omega) hq4 (by omega) (by omega) hq5 e1
      · have c1 : decide ((st : Int) < (r : Int)) = false := decide_eq_false (by omega)
        obtain rfl : st = r := by omega
        obtain ⟨en, hen⟩ : ∃ en, mid + m - st = en := ⟨_, rfl⟩
        have hee : (mid : Int) + (m : Int) - (st : Int) = (en : Int) ∧ a ≤ st ∧ st ≤ m ∧ m ≤ en ∧ en ≤ b ∧ mid = st + (en - m) ∧ st ≤ mid ∧ mid ≤ en ∧ mid - a < b - a ∧ b - mid < b - a ∧ a < mid ∧ mid < b := by
          obtain ⟨e1, e2, e3⟩ := HM.out
          omega
        obtain ⟨t8, hn1, hn2, hn3, hn4, hn5, hn6, hn7, hn8, hn9, hn10, hn11⟩ := hee
        have HA : Hid (∀ p q, a ≤ p → p < st → en ≤ q → q < b → Part.ahead (fn d p) (fn d q)) := by
          intro p q h1 h2 h3 h4
          obtain ⟨e1, e2, e3⟩ := HM.out
          refine ahead_of ?_ (P.out.t p q h1 (by omega) (by omega) h4)
          have e4 := HI.out.1 (st - 1) (by omega) (by omega)
          rw [show pn - (st - 1) = en by omega] at e4
          have e5 := inc_le P.out.l h1 (show p ≤ st - 1 by omega) (by omega)
          have e6 := inc_le P.out.r hn3 h3 h4
          omega
        have HB : Hid (∀ p q, st ≤ p → p < m → m ≤ q → q < en → Part.ahead (fn d q) (fn d p)) := by
          intro p q h1 h2 h3 h4
          obtain ⟨e1, e2, e3⟩ := HM.out
          refine ahead_lt ?_
          have e4 := HI.out.2 st (Nat.le_refl _) (by omega)
          rw [show pn - st = en - 1 by omega] at e4
          have e5 := inc_le P.out.l hn1 h1 h2
          have e6 := inc_le P.out.r h3 (show q ≤ en - 1 by omega) (by omega)
          omega
        have SP0 := split P.out hn1 hn2 hn3 hn4 HA.out HB.out
        rw [← hn5] at SP0
        have SP := Lib.hid SP0
        have HM2 := HM.out
        clear SP0 HA HB HI HM c1 hlt
        rcases Nat.lt_or_ge st m with hk1 | hk1
        · have r1 : decide ((st : Int) < (m : Int)) = true := decide_eq_true (by omega)
          rcases Nat.lt_or_ge st mid with hk2 | hk2
          · have r2 : decide ((m : Int) < (en : Int)) = true := decide_eq_true (by omega)
            clear HM2 hen hn5
            go_wp2_with fail
            refine (RO.out blk off cap st m en d.size _ d0 d w0 wr rfl R hs S1.out (by omega) (by omega) (by omega) hsz).mono ?_
            rintro e w5 ⟨rfl, d5, S5, hd5, hf5, hp5⟩
            have T5 : Aside _ := S5
            have PD : Hid (PermIn a b d d5) := perm_wide hp5 (by omega) (by omega) (by omega)
            have SPL : Hid (Pre a st mid (fn d5) ∧ Pre mid en b (fn d5) ∧ All a mid b (fn d5)) := by
              have := SP.out
              rw [← hf5] at this
              exact this
            clear S5 hp5 hf5 S1 SP
            rcases Nat.lt_or_ge a st with k1 | k1
            · have q1 : decide ((a : Int) < (st : Int)) = true := decide_eq_true (by omega)
              have q2 : decide ((st : Int) < (mid : Int)) = true := decide_eq_true (by omega)
              go_wp2_with fail
              refine (IH.out a st mid d5 _ (by omega) T5.out (by omega) (by omega) (by omega) (by omega) SPL.out.1).mono ?_
              rintro e v7 ⟨rfl, d7, S7, hd7, hp7, hi7⟩
              have T7 : Aside _ := S7
              have Q7 := Lib.hid (And.intro hp7 hi7)
              clear S7 hp7 hi7
              rcases Nat.lt_or_ge en b with k2 | k2
              · have q3 : decide ((mid : Int) < (en : Int)) = true := decide_eq_true (by omega)
                have q4 : decide ((en : Int) < (b : Int)) = true := decide_eq_true (by omega)
                go_wp2_with fail
                refine (IH.out mid en b d7 _ (by omega) T7.out (by omega) (by omega) (by omega) (by omega) (⟨fun i j h1 h2 h3 => by rw [permIn_fn Q7.out.1 i (.inr h1), permIn_fn Q7.out.1 j (.inr (by omega))]; exact SPL.out.2.1.l i j h1 h2 h3, fun i j h1 h2 h3 => by rw [permIn_fn Q7.out.1 i (.inr (by omega)), permIn_fn Q7.out.1 j (.inr (by omega))]; exact SPL.out.2.1.r i j h1 h2 h3, fun i j h1 h2 h3 h4 => by rw [permIn_fn Q7.out.1 i (.inr h1), permIn_fn Q7.out.1 j (.inr (by omega))]; exact SPL.out.2.1.t i j h1 h2 h3 h4⟩ : Pre mid en b (fn d7))).mono ?_
                rintro e v8 ⟨rfl, d8, S8, hd8, hp8, hi8⟩
                have T8 : Aside _ := S8
                have Q8 := Lib.hid (And.intro hp8 hi8)
                clear S8 hp8 hi8
                go_wp2_with fail
                go_end0
                refine ⟨rfl, d8, T8.out, by omega, permIn_trans _ _ _ _ _ (permIn_trans _ _ _ _ _ PD.out (perm_wide Q7.out.1 (Nat.le_refl _) (by omega) (by omega))) (perm_wide Q8.out.1 (by omega) (Nat.le_refl _) (by omega)), whole_inc (c := mid) (by omega) (by omega) (by omega) SPL.out.2.2 Q7.out.1 Q7.out.2 Q8.out.1 Q8.out.2⟩
              · have k4 := Lib.hid (show en = b by omega)
                have q3 : decide ((mid : Int) < (en : Int)) = true := decide_eq_true (by omega)
                have q4 : decide ((en : Int) < (b : Int)) = false := decide_eq_false (by omega)
                go_wp2_with fail
                go_end0
                refine ⟨rfl, d7, T7.out, by omega, (permIn_trans _ _ _ _ _ PD.out (perm_wide Q7.out.1 (Nat.le_refl _) (by omega) (by omega))), whole_inc (c := mid) (by omega) (by omega) (by omega) SPL.out.2.2 Q7.out.1 Q7.out.2 (permIn_refl _ _ _) (pre_right2 (⟨fun i j h1 h2 h3 => by rw [permIn_fn Q7.out.1 i (.inr h1), permIn_fn Q7.out.1 j (.inr (by omega))]; exact SPL.out.2.1.l i j h1 h2 h3, fun i j h1 h2 h3 => by rw [permIn_fn Q7.out.1 i (.inr (by omega)), permIn_fn Q7.out.1 j (.inr (by omega))]; exact SPL.out.2.1.r i j h1 h2 h3, fun i j h1 h2 h3 h4 => by rw [permIn_fn Q7.out.1 i (.inr h1), permIn_fn Q7.out.1 j (.inr (by omega))]; exact SPL.out.2.1.t i j h1 h2 h3 h4⟩ : Pre mid en b (fn d7)) k4.out)⟩
            · have q1 : decide ((a : Int) < (st : Int)) = false := decide_eq_false (by omega)
              have k3 := Lib.hid (show st = a by omega)
              rcases Nat.lt_or_ge en b with k2 | k2
              · exfalso; omega
              · have k4 := Lib.hid (show en = b by omega)
                have q3 : decide ((mid : Int) < (en : Int)) = true := decide_eq_true (by omega)
                have q4 : decide ((en : Int) < (b : Int)) = false := decide_eq_false (by omega)
                go_wp2_with fail
                go_end0
                refine ⟨rfl, d5, T5.out, by omega, PD.out, whole_inc (c := mid) (by omega) (by omega) (by omega) SPL.out.2.2 (permIn_refl d5 a mid) (pre_left2 SPL.out.1 k3.out) (permIn_refl _ _ _) (pre_right2 (⟨fun i j h1 h2 h3 => by rw [permIn_fn (permIn_refl d5 a mid) i (.inr h1), permIn_fn (permIn_refl d5 a mid) j (.inr (by omega))]; exact SPL.out.2.1.l i j h1 h2 h3, fun i j h1 h2 h3 => by rw [permIn_fn (permIn_refl d5 a mid) i (.inr (by omega)), permIn_fn (permIn_refl d5 a mid) j (.inr (by omega))]; exact SPL.out.2.1.r i j h1 h2 h3, fun i j h1 h2 h3 h4 => by rw [permIn_fn (permIn_refl d5 a mid) i (.inr h1), permIn_fn (permIn_refl d5 a mid) j (.inr (by omega))]; exact SPL.out.2.1.t i j h1 h2 h3 h4⟩ : Pre mid en b (fn d5)) k4.out)⟩
          · have r2 : decide ((m : Int) < (en : Int)) = false := decide_eq_false (by omega)
            have PD : Hid (PermIn a b d d) := permIn_refl _ _ _
            have SPL : Hid (Pre a st mid (fn d) ∧ Pre mid en b (fn d) ∧ All a mid b (fn d)) := by
              have h := SP.out
              rw [show en = m by omega] at h
              rw [rt_right] at h
              rw [show en = m by omega]
              exact h
            clear HM2 hen hn5 SP
            have q1 : decide ((a : Int) < (st : Int)) = true := decide_eq_true (by omega)
            have q2 : decide ((st : Int) < (mid : Int)) = false := decide_eq_false (by omega)
            have k3 := Lib.hid (show st = mid by omega)
            have q3 : decide ((mid : Int) < (en : Int)) = true := decide_eq_true (by omega)
            have q4 : decide ((en : Int) < (b : Int)) = true := decide_eq_true (by omega)
            go_wp2_with fail
            refine (IH.out mid en b d _ (by omega) S1.out (by omega) (by omega) (by omega) (by omega) (⟨fun i j h1 h2 h3 => by rw [permIn_fn (permIn_refl d a mid) i (.inr h1), permIn_fn (permIn_refl d a mid) j (.inr (by omega))]; exact SPL.out.2.1.l i j h1 h2 h3, fun i j h1 h2 h3 => by rw [permIn_fn (permIn_refl d a mid) i (.inr (by omega)), permIn_fn (permIn_refl d a mid) j (.inr (by omega))]; exact SPL.out.2.1.r i j h1 h2 h3, fun i j h1 h2 h3 h4 => by rw [permIn_fn (permIn_refl d a mid) i (.inr h1), permIn_fn (permIn_refl d a mid) j (.inr (by omega))]; exact SPL.out.2.1.t i j h1 h2 h3 h4⟩ : Pre mid en b (fn d))).mono ?_
            rintro e v8 ⟨rfl, d8, S8, hd8, hp8, hi8⟩
            have T8 : Aside _ := S8
            have Q8 := Lib.hid (And.intro hp8 hi8)
            clear S8 hp8 hi8
            go_wp2_with fail
            go_end0
            refine ⟨rfl, d8, T8.out, by omega, permIn_trans _ _ _ _ _ PD.out (perm_wide Q8.out.1 (by omega) (Nat.le_refl _) (by omega)), whole_inc (c := mid) (by omega) (by omega) (by omega) SPL.out.2.2 (permIn_refl d a mid) (pre_right2 SPL.out.1 k3.out) Q8.out.1 Q8.out.2⟩
        · exfalso; omega
  · have c0 : decide ((m : Int) > (mid : Int)) = false := decide_eq_false (by omega)
    have HM := Lib.hid (And.intro hmid (And.intro hpn hg))
    clear hmid hpn
    go_wp2_with fail
    go_loopg [20, 21] (m - a) (fun kx s1 s2 wr => ∃ st r : Nat, s1 = .int .i64 st ∧ s2 = .int .i64 r ∧ a ≤ st ∧ st ≤ r ∧ r ≤ m ∧ r - st ≤ kx ∧ Aside (SWK encT 3 w0 blk off d wr) ∧ Hid ((∀ c, a ≤ c → c < st → (fn d c).1.pos ≤ (fn d (pn - c)).1.pos) ∧ (∀ c, r ≤ c → c < m → (fn d (pn - c)).1.pos < (fn d c).1.pos)))
    case atStart => exact ⟨a, m, rfl, rfl, Nat.le_refl _, by omega, Nat.le_refl _, by omega, Z0, fun q h1 h2 => by omega, fun q h1 h2 => by omega⟩
    case round =>
      clear Z0
      obtain ⟨st, r, rfl, rfl, hst0, hstr, hr0, hkx, S1, HI⟩ := hrel
      by_cases hlt : st < r
      · have c1 : decide ((st : Int) < (r : Int)) = true := decide_eq_true (by omega)
        obtain ⟨c, hc⟩ : ∃ c, (st + r) / 2 = c := ⟨_, rfl⟩
        have t6 : ((st : Int) + (r : Int)) / 2 = (c : Int) := by omega
        have h1 : st ≤ c := by omega
        have h2 : c < r := by omega
        obtain ⟨q, hq⟩ : ∃ q, pn - c = q := ⟨_, rfl⟩
        have hqq : (pn : Int) - (c : Int) = (q : Int) ∧ c < d.size ∧ q < d.size ∧ m ≤ q ∧ q < b ∧ a ≤ c ∧ c < m ∧ c ≤ pn := by
          obtain ⟨e1, e2, e3⟩ := HM.out
          omega
        obtain ⟨t7, hcd, hqd, hq1, hq2, hq3, hq4, hq5⟩ := hqq
        have w7 : IntKind.i64.wrap (q : Int) = (q : Int) := by rw [IntKind.wrap_i64]; omega
        have HQ := Lib.hid hq
        clear hc hq
        obtain ⟨⟨⟨xp, xm, xs⟩, xt⟩, hx⟩ : ∃ x, d[q]! = x := ⟨_, rfl⟩
        obtain ⟨⟨⟨yp, ym, ys⟩, yt⟩, hy⟩ : ∃ x, d[c]! = x := ⟨_, rfl⟩
        have gx0 := fun n os => (at_grown S1.out R (show d.size = d0.size by omega) q (by omega) hx n os).1
        have gx1 := fun n os => (at_grown S1.out R (show d.size = d0.size by omega) q (by omega) hx n os).2.1
        have gx2 := fun n os => (at_grown S1.out R (show d.size = d0.size by omega) q (by omega) hx n os).2.2
        have gy0 := fun n os => (at_grown S1.out R (show d.size = d0.size by omega) c (by omega) hy n os).1
        have gy1 := fun n os => (at_grown S1.out R (show d.size = d0.size by omega) c (by omega) hy n os).2.1
        have gy2 := fun n os => (at_grown S1.out R (show d.size = d0.size by omega) c (by omega) hy n os).2.2
        simp only at gx0 gx1 gx2 gy0 gy1 gy2
        have hcg : ∀ n os, Calls Tryd.prog 23 #[.agg #[.int .i64 xp, .bool xm, .string xs], .agg #[.int .i64 yp, .bool ym, .string ys]] (grow (wr.drewN n) os) fun e w' => e = .returned (.int .i64 (cmpI xp yp)) ∧ ∃ q os', w' = grow ((grow (wr.drewN n) os).drewN q) os' := fun n os => S1.out.cmp HC.out (show d.size = d0.size by omega) ((⟨xp, xm, xs⟩, xt) : Tg) ((⟨yp, ym, ys⟩, yt) : Tg) n os
        obtain ⟨cv, hcv⟩ : ∃ c, cmpI xp yp = c := ⟨_, rfl⟩
        rw [hcv] at hcg
        have HCV := Lib.hid hcv
        have HX := Lib.hid hx
        have HY := Lib.hid hy
        clear hx hy hcv
        by_cases hlv : cv < 0
        · have c2 : decide (cv < 0) = true := decide_eq_true hlv
          go_wp2_with fail
          go_quiet_grown (refine Calls.grown_of (hcg _ _))
          go_wp2_with fail
          have S4 : Aside (SWK encT 3 w0 blk off d (grow (wr.drewN nq) osq)) := S1.out.grown nq osq
          go_roundg (c - st)
          case measure => omega
          case rel =>
            refine ⟨st, c, rfl, by go_num, hst0, h1, by omega, Nat.le_refl _, S4, HI.out.1, fun c' q1 q2 => ?_⟩
            have e1 : (fn d q).1.pos < (fn d c).1.pos := by
              have f1 : fn d q = _ := HX.out
              have f2 : fn d c = _ := HY.out
              rw [f1, f2]; exact (cmpI_neg _ _).1 (by rw [HCV.out]; exact hlv)
            rw [← HQ.out] at e1
            obtain ⟨m1, m2, m3⟩ := HM.out
            have := HQ.out
            exact search_no P.out hq3 q1 (by omega) (by omega) (by omega) (by omega) e1
        · have c2 : decide (cv < 0) = false := decide_eq_false hlv
          go_wp2_with fail
          go_quiet_grown (refine Calls.grown_of (hcg _ _))
          go_wp2_with fail
          have S4 : Aside (SWK encT 3 w0 blk off d (grow (wr.drewN nq) osq)) := S1.out.grown nq osq
          go_roundg (r - (c + 1))
          case measure => omega
          case rel =>
            refine ⟨c + 1, r, by go_num, rfl, by omega, by omega, hr0, Nat.le_refl _, S4, fun c' q1 q2 => ?_, HI.out.2⟩
            have e1 : (fn d c).1.pos ≤ (fn d q).1.pos := by
              have f1 : fn d q = _ := HX.out
              have f2 : fn d c = _ := HY.out
              rw [f1, f2]
              have := mt (cmpI_neg xp yp).2 (by rw [HCV.out]; omega)
              simp only; omega
            rw [← HQ.out] at e1
            obtain ⟨m1, m2, m3⟩ := HM.out
            have := HQ.out
            exact search_yes P.out (by omega) (by omega) hq4 (by omega) (by omega) hq5 e1
      · have c1 : decide ((st : Int) < (r : Int)) = false := decide_eq_false (by omega)
        obtain rfl : st = r := by omega
        obtain ⟨en, hen⟩ : ∃ en, mid + m - st = en := ⟨_, rfl⟩
        have hee : (mid : Int) + (m : Int) - (st : Int) = (en : Int) ∧ a ≤ st ∧ st ≤ m ∧ m ≤ en ∧ en ≤ b ∧ mid = st + (en - m) ∧ st ≤ mid ∧ mid ≤ en ∧ mid - a < b - a ∧ b - mid < b - a ∧ a < mid ∧ mid < b := by
          obtain ⟨e1, e2, e3⟩ := HM.out
          omega
        obtain ⟨t8, hn1, hn2, hn3, hn4, hn5, hn6, hn7, hn8, hn9, hn10, hn11⟩ := hee
        have HA : Hid (∀ p q, a ≤ p → p < st → en ≤ q → q < b → Part.ahead (fn d p) (fn d q)) := by
          intro p q h1 h2 h3 h4
          obtain ⟨e1, e2, e3⟩ := HM.out
          refine ahead_of ?_ (P.out.t p q h1 (by omega) (by omega) h4)
          have e4 := HI.out.1 (st - 1) (by omega) (by omega)
          rw [show pn - (st - 1) = en by omega] at e4
          have e5 := inc_le P.out.l h1 (show p ≤ st - 1 by omega) (by omega)
          have e6 := inc_le P.out.r hn3 h3 h4
          omega
        have HB : Hid (∀ p q, st ≤ p → p < m → m ≤ q → q < en → Part.ahead (fn d q) (fn d p)) := by
          intro p q h1 h2 h3 h4
          obtain ⟨e1, e2, e3⟩ := HM.out
          refine ahead_lt ?_
          have e4 := HI.out.2 st (Nat.le_refl _) (by omega)
          rw [show pn - st = en - 1 by omega] at e4
          have e5 := inc_le P.out.l hn1 h1 h2
          have e6 := inc_le P.out.r h3 (show q ≤ en - 1 by omega) (by omega)
          omega
        have SP0 := split P.out hn1 hn2 hn3 hn4 HA.out HB.out
        rw [← hn5] at SP0
        have SP := Lib.hid SP0
        have HM2 := HM.out
        clear SP0 HA HB HI HM c1 hlt
        rcases Nat.lt_or_ge st m with hk1 | hk1
        · have r1 : decide ((st : Int) < (m : Int)) = true := decide_eq_true (by omega)
          rcases Nat.lt_or_ge st mid with hk2 | hk2
          · have r2 : decide ((m : Int) < (en : Int)) = true := decide_eq_true (by omega)
            clear HM2 hen hn5
            go_wp2_with fail
            refine (RO.out blk off cap st m en d.size _ d0 d w0 wr rfl R hs S1.out (by omega) (by omega) (by omega) hsz).mono ?_
            rintro e w5 ⟨rfl, d5, S5, hd5, hf5, hp5⟩
            have T5 : Aside _ := S5
            have PD : Hid (PermIn a b d d5) := perm_wide hp5 (by omega) (by omega) (by omega)
            have SPL : Hid (Pre a st mid (fn d5) ∧ Pre mid en b (fn d5) ∧ All a mid b (fn d5)) := by
              have := SP.out
              rw [← hf5] at this
              exact this
            clear S5 hp5 hf5 S1 SP
            rcases Nat.lt_or_ge a st with k1 | k1
            · have q1 : decide ((a : Int) < (st : Int)) = true := decide_eq_true (by omega)
              have q2 : decide ((st : Int) < (mid : Int)) = true := decide_eq_true (by omega)
              go_wp2_with fail
              refine (IH.out a st mid d5 _ (by omega) T5.out (by omega) (by omega) (by omega) (by omega) SPL.out.1).mono ?_
              rintro e v7 ⟨rfl, d7, S7, hd7, hp7, hi7⟩
              have T7 : Aside _ := S7
              have Q7 := Lib.hid (And.intro hp7 hi7)
              clear S7 hp7 hi7
              rcases Nat.lt_or_ge en b with k2 | k2
              · have q3 : decide ((mid : Int) < (en : Int)) = true := decide_eq_true (by omega)
                have q4 : decide ((en : Int) < (b : Int)) = true := decide_eq_true (by omega)
                go_wp2_with fail
                refine (IH.out mid en b d7 _ (by omega) T7.out (by omega) (by omega) (by omega) (by omega) (⟨fun i j h1 h2 h3 => by rw [permIn_fn Q7.out.1 i (.inr h1), permIn_fn Q7.out.1 j (.inr (by omega))]; exact SPL.out.2.1.l i j h1 h2 h3, fun i j h1 h2 h3 => by rw [permIn_fn Q7.out.1 i (.inr (by omega)), permIn_fn Q7.out.1 j (.inr (by omega))]; exact SPL.out.2.1.r i j h1 h2 h3, fun i j h1 h2 h3 h4 => by rw [permIn_fn Q7.out.1 i (.inr h1), permIn_fn Q7.out.1 j (.inr (by omega))]; exact SPL.out.2.1.t i j h1 h2 h3 h4⟩ : Pre mid en b (fn d7))).mono ?_
                rintro e v8 ⟨rfl, d8, S8, hd8, hp8, hi8⟩
                have T8 : Aside _ := S8
                have Q8 := Lib.hid (And.intro hp8 hi8)
                clear S8 hp8 hi8
                go_wp2_with fail
                go_end0
                refine ⟨rfl, d8, T8.out, by omega, permIn_trans _ _ _ _ _ (permIn_trans _ _ _ _ _ PD.out (perm_wide Q7.out.1 (Nat.le_refl _) (by omega) (by omega))) (perm_wide Q8.out.1 (by omega) (Nat.le_refl _) (by omega)), whole_inc (c := mid) (by omega) (by omega) (by omega) SPL.out.2.2 Q7.out.1 Q7.out.2 Q8.out.1 Q8.out.2⟩
              · exfalso; omega
            · have q1 : decide ((a : Int) < (st : Int)) = false := decide_eq_false (by omega)
              have k3 := Lib.hid (show st = a by omega)
              rcases Nat.lt_or_ge en b with k2 | k2
              · have q3 : decide ((mid : Int) < (en : Int)) = true := decide_eq_true (by omega)
                have q4 : decide ((en : Int) < (b : Int)) = true := decide_eq_true (by omega)
                go_wp2_with fail
                refine (IH.out mid en b d5 _ (by omega) T5.out (by omega) (by omega) (by omega) (by omega) (⟨fun i j h1 h2 h3 => by rw [permIn_fn (permIn_refl d5 a mid) i (.inr h1), permIn_fn (permIn_refl d5 a mid) j (.inr (by omega))]; exact SPL.out.2.1.l i j h1 h2 h3, fun i j h1 h2 h3 => by rw [permIn_fn (permIn_refl d5 a mid) i (.inr (by omega)), permIn_fn (permIn_refl d5 a mid) j (.inr (by omega))]; exact SPL.out.2.1.r i j h1 h2 h3, fun i j h1 h2 h3 h4 => by rw [permIn_fn (permIn_refl d5 a mid) i (.inr h1), permIn_fn (permIn_refl d5 a mid) j (.inr (by omega))]; exact SPL.out.2.1.t i j h1 h2 h3 h4⟩ : Pre mid en b (fn d5))).mono ?_
                rintro e v8 ⟨rfl, d8, S8, hd8, hp8, hi8⟩
                have T8 : Aside _ := S8
                have Q8 := Lib.hid (And.intro hp8 hi8)
                clear S8 hp8 hi8
                go_wp2_with fail
                go_end0
                refine ⟨rfl, d8, T8.out, by omega, permIn_trans _ _ _ _ _ PD.out (perm_wide Q8.out.1 (by omega) (Nat.le_refl _) (by omega)), whole_inc (c := mid) (by omega) (by omega) (by omega) SPL.out.2.2 (permIn_refl d5 a mid) (pre_left2 SPL.out.1 k3.out) Q8.out.1 Q8.out.2⟩
              · have k4 := Lib.hid (show en = b by omega)
                have q3 : decide ((mid : Int) < (en : Int)) = true := decide_eq_true (by omega)
                have q4 : decide ((en : Int) < (b : Int)) = false := decide_eq_false (by omega)
                go_wp2_with fail
                go_end0
                refine ⟨rfl, d5, T5.out, by omega, PD.out, whole_inc (c := mid) (by omega) (by omega) (by omega) SPL.out.2.2 (permIn_refl d5 a mid) (pre_left2 SPL.out.1 k3.out) (permIn_refl _ _ _) (pre_right2 (⟨fun i j h1 h2 h3 => by rw [permIn_fn (permIn_refl d5 a mid) i (.inr h1), permIn_fn (permIn_refl d5 a mid) j (.inr (by omega))]; exact SPL.out.2.1.l i j h1 h2 h3, fun i j h1 h2 h3 => by rw [permIn_fn (permIn_refl d5 a mid) i (.inr (by omega)), permIn_fn (permIn_refl d5 a mid) j (.inr (by omega))]; exact SPL.out.2.1.r i j h1 h2 h3, fun i j h1 h2 h3 h4 => by rw [permIn_fn (permIn_refl d5 a mid) i (.inr h1), permIn_fn (permIn_refl d5 a mid) j (.inr (by omega))]; exact SPL.out.2.1.t i j h1 h2 h3 h4⟩ : Pre mid en b (fn d5)) k4.out)⟩
          · exfalso; omega
        · have r1 : decide ((st : Int) < (m : Int)) = false := decide_eq_false (by omega)
          have PD : Hid (PermIn a b d d) := permIn_refl _ _ _
          have SPL : Hid (Pre a st mid (fn d) ∧ Pre mid en b (fn d) ∧ All a mid b (fn d)) := by
            have h := SP.out
            rw [show m = st by omega] at h
            rw [rt_left] at h
            exact h
          have hen2 : en = mid := by omega
          clear HM2 hen hn5 SP
          have q1 : decide ((a : Int) < (st : Int)) = true := decide_eq_true (by omega)
          rcases Nat.lt_or_ge st mid with k1 | k1
          · have q2 : decide ((st : Int) < (mid : Int)) = true := decide_eq_true (by omega)
            go_wp2_with fail
            refine (IH.out a st mid d _ (by omega) S1.out (by omega) (by omega) (by omega) (by omega) SPL.out.1).mono ?_
            rintro e v7 ⟨rfl, d7, S7, hd7, hp7, hi7⟩
            have T7 : Aside _ := S7
            have Q7 := Lib.hid (And.intro hp7 hi7)
            clear S7 hp7 hi7
            have k4 := Lib.hid (show en = mid by omega)
            have q3 : decide ((mid : Int) < (en : Int)) = false := decide_eq_false (by omega)
            go_wp2_with fail
            go_end0
            refine ⟨rfl, d7, T7.out, by omega, (permIn_trans _ _ _ _ _ PD.out (perm_wide Q7.out.1 (Nat.le_refl _) (by omega) (by omega))), whole_inc (c := mid) (by omega) (by omega) (by omega) SPL.out.2.2 Q7.out.1 Q7.out.2 (permIn_refl _ _ _) (pre_left2 (⟨fun i j h1 h2 h3 => by rw [permIn_fn Q7.out.1 i (.inr h1), permIn_fn Q7.out.1 j (.inr (by omega))]; exact SPL.out.2.1.l i j h1 h2 h3, fun i j h1 h2 h3 => by rw [permIn_fn Q7.out.1 i (.inr (by omega)), permIn_fn Q7.out.1 j (.inr (by omega))]; exact SPL.out.2.1.r i j h1 h2 h3, fun i j h1 h2 h3 h4 => by rw [permIn_fn Q7.out.1 i (.inr h1), permIn_fn Q7.out.1 j (.inr (by omega))]; exact SPL.out.2.1.t i j h1 h2 h3 h4⟩ : Pre mid en b (fn d7)) k4.out)⟩
          · have q2 : decide ((st : Int) < (mid : Int)) = false := decide_eq_false (by omega)
            have k3 := Lib.hid (show st = mid by omega)
            have k4 := Lib.hid (show en = mid by omega)
            have q3 : decide ((mid : Int) < (en : Int)) = false := decide_eq_false (by omega)
            go_wp2_with fail
            go_end0
            refine ⟨rfl, d, S1.out, by omega, PD.out, whole_inc (c := mid) (by omega) (by omega) (by omega) SPL.out.2.2 (permIn_refl d a mid) (pre_right2 SPL.out.1 k3.out) (permIn_refl _ _ _) (pre_left2 (⟨fun i j h1 h2 h3 => by rw [permIn_fn (permIn_refl d a mid) i (.inr h1), permIn_fn (permIn_refl d a mid) j (.inr (by omega))]; exact SPL.out.2.1.l i j h1 h2 h3, fun i j h1 h2 h3 => by rw [permIn_fn (permIn_refl d a mid) i (.inr (by omega)), permIn_fn (permIn_refl d a mid) j (.inr (by omega))]; exact SPL.out.2.1.r i j h1 h2 h3, fun i j h1 h2 h3 h4 => by rw [permIn_fn (permIn_refl d a mid) i (.inr h1), permIn_fn (permIn_refl d a mid) j (.inr (by omega))]; exact SPL.out.2.1.t i j h1 h2 h3 h4⟩ : Pre mid en b (fn d)) k4.out)⟩

theorem sym_any (blk off cap sz : Nat) (d0 : Array Tg) (w0 : World) (R : RowK encT 3 w0 blk off d0) (hs : d0.size = sz) (hsz : sz ≤ 40) :
    ∀ (n a m b : Nat) (d : Array Tg) (w : World), b - a ≤ n → d.size = sz → SWK encT 3 w0 blk off d w → a < m → m < b → b ≤ sz → Pre a m b (fn d) → Calls Tryd.prog 40 #[.slice (some ⟨blk, off, none⟩) sz cap, .int .i64 a, .int .i64 m, .int .i64 b, .func (.func 23) #[] #[]] w fun e w' => e = .returned (.tuple #[]) ∧ ∃ d', SWK encT 3 w0 blk off d' w' ∧ d'.size = d.size ∧ PermIn a b d d' ∧ Inc a b (fn d') := by
  intro n
  induction n with
  | zero => intro a m b d w hn; intros; omega
  | succ n ih =>
    intro a m b d w hn hd S ham hmb hb hP
    by_cases h1 : m = a + 1
    · exact sym_left blk off cap a m b sz d0 d w0 w hd.symm R (by omega) S h1 hmb (by omega) (by omega) hP
    · by_cases h2 : b = m + 1
      · exact sym_right blk off cap a m b sz d0 d w0 w hd.symm R (by omega) S (by omega) h2 (by omega) (by omega) hP
      · exact sym_gen blk off cap a m b sz d0 d w0 w hd.symm R (by omega) S (by omega) (by omega) (by omega) (by omega) hP (fun a' m' b' d' w' q1 q2 q3 q4 q5 q6 q7 => ih a' m' b' d' w' (by omega) q1 q2 q3 q4 q5 q7)
end Go.Proofs.YtaflpdagehocfaaDoor.Srt
