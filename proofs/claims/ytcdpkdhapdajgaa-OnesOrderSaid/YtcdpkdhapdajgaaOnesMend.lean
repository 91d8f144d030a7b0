/- An updated checksum is the checksum of the modified bytes, unless all of them are 0: the law returns true for every input. No condition. -/
import Derived.Test.YtcdpkdhapdajgaaOnesGood
import Derived.Deep.RegionHeld3
namespace Go.Proofs.Ytcdpkdhapdajgaa.onesMendP
open Go.ChangeShapes Go.WideShapes Go.ChangeAt Go.RowKit
open Go.Proofs.Ytcdpkdhapdajgaa.Kit Go.Proofs.Ytcdpkdhapdajgaa.Ones Go.Proofs.Ytcdpkdhapdajgaa.App Go.Proofs.Ytcdpkdhapdajgaa.LawOnes Go.Proofs.Ytcdpkdhapdajgaa.OnesMath Go.Proofs.Ytcdpkdhapdajgaa.onesGoodP
set_option linter.unusedVariables false

theorem wsb_zero : ∀ (b : Bool) (l : List Int), (∀ x ∈ l, 0 ≤ x ∧ x ≤ 255) → (wsb b l = 0 ↔ lsum l = 0)
  | b, [], _ => by cases b <;> simp [wsb, lsum]
  | true, a :: l, h => by
    have ih := wsb_zero false l (fun x hx => h x (by simp [hx]))
    have ha := h a (by simp)
    have h1 := wsb_range false l (fun x hx => h x (by simp [hx]))
    have h2 := lsum_nonneg (l := l) (fun x hx => (h x (by simp [hx])).1)
    rw [lsum_cons]; simp only [wsb]; omega
  | false, a :: l, h => by
    have ih := wsb_zero true l (fun x hx => h x (by simp [hx]))
    have ha := h a (by simp)
    have h1 := wsb_range true l (fun x hx => h x (by simp [hx]))
    have h2 := lsum_nonneg (l := l) (fun x hx => (h x (by simp [hx])).1)
    rw [lsum_cons]; simp only [wsb]; omega

theorem wgt_even (j : Nat) : wgt true (2 * j) = 256 := by simp [wgt]
theorem wgt_odd (j : Nat) : wgt true (2 * j + 1) = 1 := by unfold wgt; rw [if_neg]; simp

theorem mend_math {l : List Int} (hby : wthn l 255 = true) {j : Nat} (hj : 2 * j + 1 < l.length) {x : Int} (hx : 0 ≤ x ∧ x ≤ 65535) {y z : Int} (hy : l[2 * j]?.getD 0 = y) (hz : l[2 * j + 1]?.getD 0 = z) {next : List Int} (hnx : (l.set (2 * j) (x / 256)).set (2 * j + 1) (x % 256) = next) :
    wthn next 255 = true ∧ (0 ≤ y ∧ y ≤ 255) ∧ (0 ≤ z ∧ z ≤ 255) ∧ 0 ≤ lsum next ∧
    (lsum next = 0 → onesum next = 0 ∧ sum1 [onesum l, 65535 - (256 * y + z), x] = 65535) ∧ (lsum next ≠ 0 → onesum next = sum1 [onesum l, 65535 - (256 * y + z), x]) := by
  have hw : wthn next 255 = true := wthn_of (fun v hv => by
    rw [← hnx] at hv
    rcases List.mem_or_eq_of_mem_set hv with h | rfl
    · rcases List.mem_or_eq_of_mem_set h with h | rfl
      · exact bytes_of hby v h
      · omega
    · omega)
  have by1 := byte_at hby (2 * j); have bz1 := byte_at hby (2 * j + 1)
  rw [hy] at by1; rw [hz] at bz1
  have hT := wsb_range true l (bytes_of hby)
  have hT' := wsb_range true next (bytes_of hw)
  have hz0 := wsb_zero true next (bytes_of hw)
  have e : wsb true next = wsb true l - (256 * y + z) + x := by
    rw [← hnx, wsb_set _ _ _ _ (by simpa using hj), wsb_set _ _ _ _ (by omega), wgt_even, wgt_odd, List.getElem?_set_ne (by omega), hy, hz]
    omega
  have h1 := onesum_rnd hw
  have h2 := onesum_rnd hby
  have hr := onesum_range hby
  have h3 : sum1 [onesum l, 65535 - (256 * y + z), x] = rnd (onesum l + (65535 - (256 * y + z)) + x) := by
    rw [sum1_rnd (by intro v hv; simp at hv; omega)]
    simp [lsum]
  rw [h3, h1]
  refine ⟨hw, by1, bz1, lsum_nonneg (fun v hv => (bytes_of hw v hv).1), fun h0 => ?_, fun h0 => ?_⟩
  · have hn0 := hz0.2 h0
    rw [hn0] at e ⊢
    rw [h2] at hr ⊢
    refine ⟨rfl, ?_⟩
    generalize wsb true l = T at *
    unfold rnd at hr ⊢
    split at hr <;> split <;> omega
  · have hn0 : wsb true next ≠ 0 := fun h => h0 (hz0.1 h)
    rw [h2] at hr ⊢
    generalize wsb true next = T' at *
    generalize wsb true l = T at *
    unfold rnd at hr ⊢
    rw [if_neg hn0]
    split at hr <;> split <;> omega

theorem set_z (n : Nat) (p : Option Addr) (cap : Nat) (l : List Int) (i : Nat) (ii x : Int) (w : World) (hii : ii = (i : Int)) (hn0 : n = l.length) (h : Ints w p cap l) (hl : l.length ≤ 700) (hi : i < l.length) (hx : (Lit.int .i64 x).wf = true) :
    Calls Try.prog 13 #[.slice p n cap, .int .i64 ii, .int .i64 x] w fun e w' => ∃ p' cap', e = .returned (.slice p' n cap') ∧ Ints w' p' cap' (l.set i x) ∧ Below w.heap.size w w' := by
  subst hii; exact set_n n p cap l i x w hn0 h hl hi hx
theorem sum_n (n : Nat) (p : Option Addr) (cap : Nat) (zs : List Int) (w : World) (hn0 : n = zs.length) (h : Ints w p cap zs) (hn : zs.length ≤ 600) (hby : wthn zs 255 = true) :
    Calls Try.prog 9 #[.slice p n cap] w fun e w' => e = .returned (.tuple #[.int .i64 (65535 - onesum zs), .nilIface]) ∧ Below w.heap.size w w' := by
  subst hn0; exact sum_ok p cap zs w h hn hby
theorem esum_n (n : Nat) (p : Option Addr) (cap : Nat) (l : List Int) (w : World) (hn0 : n = l.length) (h : Ints w p cap l) (hl : l.length ≤ 700) (hb : ∀ x ∈ l, 0 ≤ x ∧ x ≤ 255) :
    Calls Try.prog 15 #[.slice p n cap] w fun e w' => e = .returned (.int .i64 (lsum l)) ∧ w = w' := by
  subst hn0; exact esum_any p cap l w h hl hb

theorem law_bad (p : Option Addr) (cap : Nat) (l : List Int) (i x : Int) (w : World) (h : Ints w p cap l) (hb : bad l ≠ 0) :
    Calls Try.prog 6 #[.slice p l.length cap, .int .i64 i, .int .i64 x] w fun e w' => e = .returned (.bool true) ∧ Below w.heap.size w w' := by
  have hlen := h.len_le
  go_enter Try.func6, Try.ntmps6
  go_wp2_with (first
    | (go_at_call 8; refine (fact_any _).mono ?_; rintro e w1 ⟨rfl, hb1⟩)
    | (go_at_call 9; refine (sum_bad p cap l w1 (h.below hb1) hb).mono ?_; rintro e w2 ⟨rfl, rfl⟩))
  go_ret
  exact ⟨rfl, hb1⟩

/-- What stands while the region is walked. -/
structure St (w W : World) (p : Option Addr) (cap : Nat) (l : List Int) : Prop where
  b : Below w.heap.size w W
  i : Ints W p cap l
theorem St.call {w W W2 : World} {p : Option Addr} {cap : Nat} {l : List Int} (h : St w W p cap l) (hb : Below W.heap.size W W2) : St w W2 p cap l := ⟨bcall h.b hb, h.i.below hb⟩

set_option maxHeartbeats 1000000 in
theorem law_out (p : Option Addr) (cap : Nat) (l : List Int) (i x : Int) (w : World) (h : Ints w p cap l) (hn : l.length ≤ 600) (hby : wthn l 255 = true) (hc : ¬ (0 ≤ i ∧ i ≤ (l.length : Int) / 2 - 1) ∨ ¬ (0 ≤ x ∧ x ≤ 65535)) :
    Calls Try.prog 6 #[.slice p l.length cap, .int .i64 i, .int .i64 x] w fun e w' => e = .returned (.bool true) ∧ Below w.heap.size w w' := by
  have hr := onesum_range hby
  have S1 := Lib.hid (fun W (hh : Ints W p cap l) => sum_ok p cap l W hh hn hby)
  generalize onesum l = s at hr S1
  by_cases c1 : 0 ≤ i ∧ i ≤ (l.length : Int) / 2 - 1
  · have c2 : ¬ (0 ≤ x ∧ x ≤ 65535) := hc.resolve_left (fun h => h c1)
    clear hc
    go_enter Try.func6, Try.ntmps6
    go_wp2_with fail
    refine (fact_any _).mono ?_; rintro e w1 ⟨rfl, hb1⟩
    go_wp2_with fail
    refine (S1.out w1 (h.below hb1)).mono ?_; rintro e w2 ⟨rfl, hb2⟩
    go_wp2_with fail
    have hB2 := bcall hb1 hb2
    refine (in_yes _ 0 _ _ c1).mono ?_; rintro e w3 ⟨rfl, rfl⟩
    go_wp2_with fail
    refine (in_no _ 0 _ _ c2).mono ?_; rintro e w3 ⟨rfl, rfl⟩
    go_wp2_with fail
    go_ret
    exact ⟨rfl, hB2⟩
  · clear hc
    go_enter Try.func6, Try.ntmps6
    go_wp2_with fail
    refine (fact_any _).mono ?_; rintro e w1 ⟨rfl, hb1⟩
    go_wp2_with fail
    refine (S1.out w1 (h.below hb1)).mono ?_; rintro e w2 ⟨rfl, hb2⟩
    go_wp2_with fail
    have hB2 := bcall hb1 hb2
    refine (in_no _ 0 _ _ c1).mono ?_; rintro e w3 ⟨rfl, rfl⟩
    go_wp2_with fail
    go_ret
    exact ⟨rfl, hB2⟩

set_option maxHeartbeats 600000 in
theorem law_in (p : Option Addr) (cap : Nat) (l : List Int) (j : Nat) (x : Int) (w : World) (h : Ints w p cap l) (hn : l.length ≤ 600) (hby : wthn l 255 = true) (hj : 2 * j + 1 < l.length) (hx : 0 ≤ x ∧ x ≤ 65535) :
    Calls Try.prog 6 #[.slice p l.length cap, .int .i64 j, .int .i64 x] w fun e w' => e = .returned (.bool true) ∧ Below w.heap.size w w' := by
  have hr := onesum_range hby
  obtain ⟨y, hy⟩ : ∃ y, l[2 * j]?.getD 0 = y := ⟨_, rfl⟩
  obtain ⟨z, hz⟩ : ∃ z, l[2 * j + 1]?.getD 0 = z := ⟨_, rfl⟩
  obtain ⟨next, hnx⟩ : ∃ next, (l.set (2 * j) (x / 256)).set (2 * j + 1) (x % 256) = next := ⟨_, rfl⟩
  have hlen : next.length = l.length := by rw [← hnx]; simp
  obtain ⟨hw, by1, bz1, hs0, hm1, hm2⟩ := mend_math hby hj hx hy hz hnx
  have S1 := Lib.hid (fun W (hh : Ints W p cap l) => sum_ok p cap l W hh hn hby)
  have S2 := Lib.hid (fun W p' c' (hh : Ints W p' c' (l.set (2 * j) (x / 256))) => set_z l.length p' c' (l.set (2 * j) (x / 256)) (2 * j + 1) (2 * (j : Int) + 1) (x % 256) W (by omega) (by simp) hh (by simp; omega) (by simp; omega) (wf_small (by omega)))
  rw [hnx] at S2
  have S3 := Lib.hid (fun W p' c' (hh : Ints W p' c' next) => sum_n l.length p' c' next W hlen.symm hh (by omega) hw)
  have S4 := Lib.hid (fun W => mend_ok (65535 - onesum l) (256 * y + z) x W (by omega) (by omega) hx)
  rw [show (65535 - (65535 - onesum l) : Int) = onesum l by omega] at S4
  have S5 := Lib.hid (fun W p' c' (hh : Ints W p' c' next) => esum_n l.length p' c' next W hlen.symm hh (by omega) (bytes_of hw))
  have S6 := Lib.hid (fun W (hh : Ints W p cap l) => set_z l.length p cap l (2 * j) (2 * (j : Int)) (x / 256) W (by omega) rfl hh (by omega) (by omega) (wf_small (by omega)))
  have hrn := onesum_range hw
  have hr4 := sum1_range (xs := [onesum l, 65535 - (256 * y + z), x]) (fun v hv => by simp at hv; omega)
  generalize sum1 [onesum l, 65535 - (256 * y + z), x] = k at S4 hm1 hm2 hr4
  generalize onesum l = s at S1 S4 hr
  generalize onesum next = m at S3 hm1 hm2 hrn
  obtain ⟨b, off, rfl, hbw, hcc⟩ := h.2.2.2 (by omega)
  have hcy := hcc (2 * j) (by omega)
  have hcz := hcc (2 * j + 1) (by omega)
  rw [hy] at hcy; rw [hz] at hcz
  generalize lsum next = q at S5 hm1 hm2 hs0
  clear hcc hy hz hnx hlen hw hby
  by_cases h0 : q = 0
  · obtain ⟨rfl, rfl⟩ := hm1 h0
    subst h0
    clear hm1 hm2
    go_enter Try.func6, Try.ntmps6
    go_wp2_with fail
    refine (fact_any _).mono ?_; rintro e w1 ⟨rfl, hb1⟩
    go_wp2_with fail
    refine (S1.out w1 (h.below hb1)).mono ?_; rintro e w2 ⟨rfl, hb2⟩
    go_wp2_with fail
    have hB2 := bcall hb1 hb2
    refine (in_yes _ 0 _ _ (by omega)).mono ?_; rintro e w3 ⟨rfl, rfl⟩
    go_wp2_with fail
    refine (in_yes _ 0 _ _ hx).mono ?_; rintro e w3 ⟨rfl, rfl⟩
    go_wp2_with fail
    refine (S6.out w2 (h.below hB2)).mono ?_; rintro e w3 ⟨p3, cap3, rfl, hi3, hb3⟩
    go_wp2_with fail
    refine (S2.out _ _ _ hi3).mono ?_; rintro e w4 ⟨p4, cap4, rfl, hi4, hb4⟩
    go_wp2_with fail
    refine (S3.out _ _ _ hi4).mono ?_; rintro e w5 ⟨rfl, hb5⟩
    have hB5 := bcall (bcall (bcall hB2 hb3) hb4) hb5
    have hi5 := hi4.below hb5
    have cy := (hB5.cell (p := ⟨b, off + 2 * j, none⟩) hbw).trans hcy
    have cz := (hB5.cell (p := ⟨b, off + (2 * j + 1), none⟩) hbw).trans hcz
    clear hcy hcz
    have i1 : (0 : Int) ≤ 2 * (j : Int) := by omega
    have i2 : 2 * (j : Int) < (l.length : Int) := by omega
    have i3 : (0 : Int) ≤ 2 * (j : Int) + 1 := by omega
    have i4 : 2 * (j : Int) + 1 < (l.length : Int) := by omega
    have i5 : (2 * (j : Int)).toNat = 2 * j := by omega
    have i6 : (2 * (j : Int) + 1).toNat = 2 * j + 1 := by omega
    have q1 : IntKind.i64.wrap (2 * (j : Int)) = 2 * (j : Int) := IntWalk.i64_in _ (by omega)
    have q2 : IntKind.i64.wrap (2 * (j : Int) + 1) = 2 * (j : Int) + 1 := IntWalk.i64_in _ (by omega)
    have q3 : IntKind.i64.wrap (256 * y) = 256 * y := IntWalk.i64_in _ (by omega)
    have q4 : IntKind.i64.wrap (256 * y + z) = 256 * y + z := IntWalk.i64_in _ (by omega)
    go_wp2_with fail
    clear hi4 hi3 hb3 hb4 hb5 hB2 hb1 hb2
    go_region_held3 (fun W' => (W'.cell? ⟨b, off + 2 * j, none⟩ = some (.int .i64 y) ∧ W'.cell? ⟨b, off + (2 * j + 1), none⟩ = some (.int .i64 z)) ∧ St w W' p4 cap4 next)
      (first
        | exact ⟨⟨cy, cz⟩, ⟨hB5, hi5⟩⟩
        | exact ⟨⟨cy, cz⟩, ⟨hB5.drew, hi5⟩⟩
        | (go_split_ands; exact ⟨⟨(hb6.cell (p := ⟨b, off + 2 * j, none⟩) (It.cell_lt (by assumption))).trans (by assumption), (hb6.cell (p := ⟨b, off + (2 * j + 1), none⟩) (It.cell_lt (by assumption))).trans (by assumption)⟩, St.call (by assumption) hb6⟩)
        | go_keep)
      (first | (go_at_call 14; refine (S4.out _).mono ?_; rintro e w6 ⟨rfl, hb6⟩))
    go_wp2_with fail
    refine (S5.out _ _ _ (Ints.below (w := w5.drew) hi5 hb6)).mono ?_; rintro e w7 ⟨rfl, rfl⟩
    go_wp2_with fail
    go_ret
    exact ⟨rfl, bcall hB5.drew hb6⟩
  · obtain rfl := hm2 h0
    have hq1 : (q == 0) = false := by rw [beq_eq_false_iff_ne]; exact h0
    have hq2 : 0 < q := by omega
    have hq3 : ((65535 - m) == (65535 - m)) = true := beq_self_eq_true _
    clear hm1 hm2 h0
    go_enter Try.func6, Try.ntmps6
    go_wp2_with fail
    refine (fact_any _).mono ?_; rintro e w1 ⟨rfl, hb1⟩
    go_wp2_with fail
    refine (S1.out w1 (h.below hb1)).mono ?_; rintro e w2 ⟨rfl, hb2⟩
    go_wp2_with fail
    have hB2 := bcall hb1 hb2
    refine (in_yes _ 0 _ _ (by omega)).mono ?_; rintro e w3 ⟨rfl, rfl⟩
    go_wp2_with fail
    refine (in_yes _ 0 _ _ hx).mono ?_; rintro e w3 ⟨rfl, rfl⟩
    go_wp2_with fail
    refine (S6.out w2 (h.below hB2)).mono ?_; rintro e w3 ⟨p3, cap3, rfl, hi3, hb3⟩
    go_wp2_with fail
    refine (S2.out _ _ _ hi3).mono ?_; rintro e w4 ⟨p4, cap4, rfl, hi4, hb4⟩
    go_wp2_with fail
    refine (S3.out _ _ _ hi4).mono ?_; rintro e w5 ⟨rfl, hb5⟩
    have hB5 := bcall (bcall (bcall hB2 hb3) hb4) hb5
    have hi5 := hi4.below hb5
    have cy := (hB5.cell (p := ⟨b, off + 2 * j, none⟩) hbw).trans hcy
    have cz := (hB5.cell (p := ⟨b, off + (2 * j + 1), none⟩) hbw).trans hcz
    clear hcy hcz
    have i1 : (0 : Int) ≤ 2 * (j : Int) := by omega
    have i2 : 2 * (j : Int) < (l.length : Int) := by omega
    have i3 : (0 : Int) ≤ 2 * (j : Int) + 1 := by omega
    have i4 : 2 * (j : Int) + 1 < (l.length : Int) := by omega
    have i5 : (2 * (j : Int)).toNat = 2 * j := by omega
    have i6 : (2 * (j : Int) + 1).toNat = 2 * j + 1 := by omega
    have q1 : IntKind.i64.wrap (2 * (j : Int)) = 2 * (j : Int) := IntWalk.i64_in _ (by omega)
    have q2 : IntKind.i64.wrap (2 * (j : Int) + 1) = 2 * (j : Int) + 1 := IntWalk.i64_in _ (by omega)
    have q3 : IntKind.i64.wrap (256 * y) = 256 * y := IntWalk.i64_in _ (by omega)
    have q4 : IntKind.i64.wrap (256 * y + z) = 256 * y + z := IntWalk.i64_in _ (by omega)
    go_wp2_with fail
    clear hi4 hi3 hb3 hb4 hb5 hB2 hb1 hb2
    go_region_held3 (fun W' => (W'.cell? ⟨b, off + 2 * j, none⟩ = some (.int .i64 y) ∧ W'.cell? ⟨b, off + (2 * j + 1), none⟩ = some (.int .i64 z)) ∧ St w W' p4 cap4 next)
      (first
        | exact ⟨⟨cy, cz⟩, ⟨hB5, hi5⟩⟩
        | exact ⟨⟨cy, cz⟩, ⟨hB5.drew, hi5⟩⟩
        | (go_split_ands; exact ⟨⟨(hb6.cell (p := ⟨b, off + 2 * j, none⟩) (It.cell_lt (by assumption))).trans (by assumption), (hb6.cell (p := ⟨b, off + (2 * j + 1), none⟩) (It.cell_lt (by assumption))).trans (by assumption)⟩, St.call (by assumption) hb6⟩)
        | go_keep)
      (first | (go_at_call 14; refine (S4.out _).mono ?_; rintro e w6 ⟨rfl, hb6⟩))
    go_wp2_with fail
    refine (S5.out _ _ _ (Ints.below (w := w5.drew) hi5 hb6)).mono ?_; rintro e w7 ⟨rfl, rfl⟩
    go_wp2_with fail
    refine (S5.out _ _ _ (Ints.below (w := w5.drew) hi5 hb6)).mono ?_; rintro e w7 ⟨rfl, rfl⟩
    go_wp2_with fail
    go_ret
    exact ⟨rfl, bcall hB5.drew hb6⟩

theorem law (p : Option Addr) (cap : Nat) (l : List Int) (i x : Int) (w : World) (h : Ints w p cap l) :
    Calls Try.prog 6 #[.slice p l.length cap, .int .i64 i, .int .i64 x] w fun e w' => e = .returned (.bool true) ∧ Below w.heap.size w w' := by
  by_cases hb : bad l ≠ 0
  · exact law_bad p cap l i x w h hb
  · obtain ⟨hn, hby⟩ := bad_zero hb
    by_cases hc : (0 ≤ i ∧ i ≤ (l.length : Int) / 2 - 1) ∧ 0 ≤ x ∧ x ≤ 65535
    · obtain ⟨j, rfl⟩ := Int.eq_ofNat_of_zero_le hc.1.1
      exact law_in p cap l j x w h hn hby (by omega) hc.2
    · exact law_out p cap l i x w h hn hby (by omega)

theorem reads : Try.f6.params.toList.all (fun t => Try.prog.readableRec t && decide (t < Try.prog.types.size)) = true := by kernel_rfl

theorem contract (H : Type) (enc : TypeId × Value → H) (W : World) (base : Nat) (args : Array Value) (ds gs : List (DataW H)) (before : List MemPlace)
    (hval : ∀ (j : Nat) t v, Try.f6.params[j]? = some t → args[j]? = some v → Value.okWide Try.prog W .any base t v)
    (hW : DataW.Whole enc Try.prog Try.f6.params.toList Rows.onesMendSpec.vars false W args.toList ds gs before) :
    Calls Try.prog 6 args W fun e W' => ∃ v, e = .returned v ∧ Rows.onesMendSpec.post enc Try.prog Try.f6 false true false false W args v W' := by
  have hW' := hW
  obtain ⟨p, q, hA0, hV, rfl, hfz, hnd⟩ := hW
  have hA : DataW.TrodAll enc Try.prog W 0 (fun _ => true) true Try.f6.params.toList args.toList ds p := hA0
  have hlt := hA.lt
  rw [Try.params6] at hA hval
  obtain ⟨v0, vs0, d0, ds0, p0, q0, hargs, rfl, rfl, h0, r0⟩ := trodAll_cons hA
  obtain ⟨v1, vs1, d1, ds1, p1, q1, hvs1, rfl, rfl, h1, r1⟩ := trodAll_cons r0
  obtain ⟨v2, vs2, d2, ds2, p2, q2, hvs2, rfl, rfl, h2, r2⟩ := trodAll_cons r1
  obtain ⟨hvsn, rfl, rfl⟩ := trodAll_nil r2
  simp only [hvsn, hvs2, hvs1] at hargs
  obtain rfl : args = #[v0, v1, v2] := by cases args; simp_all
  obtain ⟨rfl, rfl⟩ := trodVars_none hV
  clear hA0
  obtain ⟨p0a, cap0, l0, rfl, i0⟩ := open_intsl Try.underlying26 Try.underlying3 (by kernel_rfl) (hval 0 26 v0 rfl rfl) h0 (fun x hx => hlt x (by simp [hx]))
  obtain ⟨a1, rfl, rfl, rfl, w1⟩ := open_int Try.underlying3 (hval 1 3 v1 rfl rfl) h1
  have b1 := bounds_int w1
  obtain ⟨a2, rfl, rfl, rfl, w2⟩ := open_int Try.underlying3 (hval 2 3 v2 rfl rfl) h2
  have b2 := bounds_int w2
  exact law_post 4 laid reads rfl Try.underlying4 rfl hW' ⟨rfl, rfl, rfl⟩ (law p0a cap0 l0 a1 a2 W i0)

set_option maxRecDepth 100000 in
theorem lifted (os : Os) (started : os.Started) (H : Type) (enc : TypeId × Value → H) :
    ReturnsInHanded {} Try.checked os 6 .any (Rows.onesMendSpec.pre6 enc Try.prog Try.f6 Rows.onesMendRow.domain false) (Rows.onesMendSpec.post enc Try.prog Try.f6 false true false false) := by
  refine returnsInHanded_of_change (C := Try.checked) own started (by kernel_rfl) Try.func6
    (ChangeSpec.witness6 (enc := enc) (C := Try.checked) false ⟨#[], #[.slice none 0 0, .int .i64 0, .int .i64 0], []⟩ 8 (by kernel_rfl) (by kernel_rfl) (by kernel_rfl) (by kernel_rfl)) ?_
  intro W base args ds gs before hval hW _ _
  exact contract H enc W base args ds gs before hval hW

theorem proved : Rows.OnesMendSaid :=
  OpenClaim.holds_of_wide 6 Try.f6 rfl rfl rfl rfl rfl rfl rfl ⟨rfl, rfl, rfl, rfl, rfl⟩ rfl rfl rfl rfl rfl (by kernel_rfl) Try.func6 (by kernel_rfl)
    (of_decide_eq_true (by kernel_rfl)) (by unfold Func.isWrapper; first | (rw [if_pos (by decide +kernel)]; kernel_rfl) | (rw [if_neg (by decide +kernel)]; exact ⟨rfl, rfl⟩))
    (fun os started H enc _ => lifted os started H enc)
end Go.Proofs.Ytcdpkdhapdajgaa.onesMendP
