/- Package aimd: Run, without Apart (XAimd2 and XAimd3 in a seat that lacks it). No statement is proved here. -/
import Derived.Test.YtggnpecmldnmnaaAimd1
import Derived.Test.YtggnpecmldnmnaaOwnI
import Derived.Deep.RegionLaw
import Derived.Test.YtggnpecmldnmnaaOnce
namespace Go.Proofs.Ytggnpecmldnmnaa.Aimd
open Go.ChangeShapes Go.WideShapes Go.ChangeAt Go.RowKit Go.Proofs.Ytggnpecmldnmnaa.Kit Go.Proofs.Ytggnpecmldnmnaa.App Go.Proofs.Ytggnpecmldnmnaa.Err Go.Proofs.Ytggnpecmldnmnaa.AimdMath
set_option linter.unusedVariables false
set_option maxRecDepth 20000

set_option maxHeartbeats 2000000 in
theorem change_half (bx g n cap base : Nat) (l : List Int) (w : World) (hn : n = l.length) (hcap : n ≤ cap ∧ cap ≤ 9223372036854775807) (hbx : w.cell? ⟨bx, 0, none⟩ = some (.slice (some ⟨g, 0, none⟩) n cap)) (hne : bx ≠ g)
    (ho : OwnI w base (.slice (some ⟨g, 0, none⟩) n cap) l) (hl : l.length ≤ 5) (hb : ∀ x ∈ l, 0 ≤ x ∧ x ≤ 9000) :
    Calls Try.prog 24 #[.func (.func 26) #[] #[], .pointer (some ⟨bx, 0, none⟩)] w fun e w' => e = .returned (.tuple #[]) ∧ OwnI w' base (.slice (some ⟨g, 0, none⟩) n cap) (l.map (fun x => x / 2)) ∧ w.grownBy w' (some g) := by
  obtain ⟨hc1, hc2⟩ := hcap
  rw [← hn] at hl
  have HB := Lib.hid hb
  have HN := Lib.hid hn
  have HBX := Lib.hid hbx
  have HO := Lib.hid ho
  have HNE := Lib.hid hne
  have CL := Lib.hid (fun x W hx y hy => half_any x W hx y hy)
  clear ho hb hn hne
  go_enter Try.func24, Try.ntmps24
  go_wp2_with fail
  clear hbx
  go_loopw [7] (fun iv wr => ∃ k : Nat, k ≤ n ∧ iv = .int .i64 k ∧ Hid (OwnI wr base (.slice (some ⟨g, 0, none⟩) n cap) ((l.take k).map (fun x => x / 2) ++ l.drop k)) ∧ Hid (w.grownBy wr (some g))) (fun i _ => n - (intOf i).toNat)
  case atStart => exact ⟨0, Nat.zero_le _, rfl, Lib.hid (by simpa using HO.out), Lib.hid (grefl _ _)⟩
  case round =>
    obtain ⟨k, hk, rfl, HW, HG⟩ := hrel
    by_cases hlt : k < n
    · have hkl : k < l.length := by rw [← HN.out]; exact hlt
      have c0 := box_keep HBX.out HG.out HNE.out
      have hck := own_cell HW.out k (by rw [upto_len]; exact hkl)
      rw [upto_get] at hck
      have hfz := own_fz HW.out k
      have hx2 := HB.out (l[k]?.getD 0) (by rw [List.getElem?_eq_getElem hkl]; exact List.getElem_mem hkl)
      have HS := Lib.hid (map_upto (fun x => x / 2) l k hkl)
      clear hkl
      generalize l[k]?.getD 0 = x at hck hx2 HS
      obtain ⟨y, hy⟩ : ∃ y, x / 2 = y := ⟨_, rfl⟩
      have hy2 : -9223372036854775808 ≤ y ∧ y ≤ 9223372036854775807 := by omega
      have C := Lib.hid (fun W => CL.out x W (by omega) y hy)
      have HS2 := Lib.hid (show ((l.take k).map (fun x => x / 2) ++ l.drop k).set k y = (l.take (k + 1)).map (fun x => x / 2) ++ l.drop (k + 1) by have h := HS.out; rw [hy] at h; exact h)
      clear hx2 hy HS
      go_wp2_with fail
      go_region_law (first
        | (go_simp; go_at_call 26; refine (C.out _).mono ?_; rintro e w8 ⟨rfl, rfl⟩))
      all_goals
        have HW2 := Lib.hid (own_set HW.out k y (wf_in hy2))
        rw [HS2.out] at HW2
        have HG2 := Lib.hid (grown_set HG.out k (.int .i64 y))
        go_wp2_with fail
        go_roundw
        case rel => exact ⟨k + 1, by omega, by first | rfl | go_num, Lib.hid HW2.out, Lib.hid (by first | exact HG2.out | exact grown_drew HG2.out)⟩
        case measure => simp [intOf]; omega
    · obtain rfl : k = n := by omega
      have HR := Lib.hid (show OwnI wr base (.slice (some ⟨g, 0, none⟩) k cap) (l.map (fun x => x / 2)) by
        have h := HW.out
        rwa [List.take_of_length_le (by rw [← HN.out]; exact Nat.le_refl _), List.drop_eq_nil_of_le (by rw [← HN.out]; exact Nat.le_refl _), List.append_nil] at h)
      go_wp2_with fail
      refine bodyPost_end (results_none rfl _ _ _) rfl ?_
      exact ⟨rfl, HR.out, HG.out⟩

set_option maxHeartbeats 2000000 in
theorem change_more (bx g n cap base : Nat) (l : List Int) (w : World) (hn : n = l.length) (hcap : n ≤ cap ∧ cap ≤ 9223372036854775807) (hbx : w.cell? ⟨bx, 0, none⟩ = some (.slice (some ⟨g, 0, none⟩) n cap)) (hne : bx ≠ g)
    (ho : OwnI w base (.slice (some ⟨g, 0, none⟩) n cap) l) (hl : l.length ≤ 5) (hb : ∀ x ∈ l, 0 ≤ x ∧ x ≤ 9000) :
    Calls Try.prog 24 #[.func (.func 27) #[] #[], .pointer (some ⟨bx, 0, none⟩)] w fun e w' => e = .returned (.tuple #[]) ∧ OwnI w' base (.slice (some ⟨g, 0, none⟩) n cap) (l.map (fun x => x + 1)) ∧ w.grownBy w' (some g) := by
  obtain ⟨hc1, hc2⟩ := hcap
  rw [← hn] at hl
  have HB := Lib.hid hb
  have HN := Lib.hid hn
  have HBX := Lib.hid hbx
  have HO := Lib.hid ho
  have HNE := Lib.hid hne
  have CL := Lib.hid (fun x W hx y hy => more_any x W hx y hy)
  clear ho hb hn hne
  go_enter Try.func24, Try.ntmps24
  go_wp2_with fail
  clear hbx
  go_loopw [7] (fun iv wr => ∃ k : Nat, k ≤ n ∧ iv = .int .i64 k ∧ Hid (OwnI wr base (.slice (some ⟨g, 0, none⟩) n cap) ((l.take k).map (fun x => x + 1) ++ l.drop k)) ∧ Hid (w.grownBy wr (some g))) (fun i _ => n - (intOf i).toNat)
  case atStart => exact ⟨0, Nat.zero_le _, rfl, Lib.hid (by simpa using HO.out), Lib.hid (grefl _ _)⟩
  case round =>
    obtain ⟨k, hk, rfl, HW, HG⟩ := hrel
    by_cases hlt : k < n
    · have hkl : k < l.length := by rw [← HN.out]; exact hlt
      have c0 := box_keep HBX.out HG.out HNE.out
      have hck := own_cell HW.out k (by rw [upto_len]; exact hkl)
      rw [upto_get] at hck
      have hfz := own_fz HW.out k
      have hx2 := HB.out (l[k]?.getD 0) (by rw [List.getElem?_eq_getElem hkl]; exact List.getElem_mem hkl)
      have HS := Lib.hid (map_upto (fun x => x + 1) l k hkl)
      clear hkl
      generalize l[k]?.getD 0 = x at hck hx2 HS
      obtain ⟨y, hy⟩ : ∃ y, x + 1 = y := ⟨_, rfl⟩
      have hy2 : -9223372036854775808 ≤ y ∧ y ≤ 9223372036854775807 := by omega
      have C := Lib.hid (fun W => CL.out x W (by omega) y hy)
      have HS2 := Lib.hid (show ((l.take k).map (fun x => x + 1) ++ l.drop k).set k y = (l.take (k + 1)).map (fun x => x + 1) ++ l.drop (k + 1) by have h := HS.out; rw [hy] at h; exact h)
      clear hx2 hy HS
      go_wp2_with fail
      go_region_law (first
        | (go_simp; go_at_call 27; refine (C.out _).mono ?_; rintro e w8 ⟨rfl, rfl⟩))
      all_goals
        have HW2 := Lib.hid (own_set HW.out k y (wf_in hy2))
        rw [HS2.out] at HW2
        have HG2 := Lib.hid (grown_set HG.out k (.int .i64 y))
        go_wp2_with fail
        go_roundw
        case rel => exact ⟨k + 1, by omega, by first | rfl | go_num, Lib.hid HW2.out, Lib.hid (by first | exact HG2.out | exact grown_drew HG2.out)⟩
        case measure => simp [intOf]; omega
    · obtain rfl : k = n := by omega
      have HR := Lib.hid (show OwnI wr base (.slice (some ⟨g, 0, none⟩) k cap) (l.map (fun x => x + 1)) by
        have h := HW.out
        rwa [List.take_of_length_le (by rw [← HN.out]; exact Nat.le_refl _), List.drop_eq_nil_of_le (by rw [← HN.out]; exact Nat.le_refl _), List.append_nil] at h)
      go_wp2_with fail
      refine bodyPost_end (results_none rfl _ _ _) rfl ?_
      exact ⟨rfl, HR.out, HG.out⟩
theorem run_bad (p : Option Addr) (cap n : Nat) (room s : Int) (l : List Int) (w : World) (hn : n = l.length) (hi : Ints w p cap l) (c : Int) (hc : c = badR l room s) (h0 : c ≠ 0) :
    Calls Try.prog 16 #[.slice p n cap, .int .i64 room, .int .i64 s] w fun e w' => e = .returned (.tuple #[.slice none 0 0, .int .i64 0, .iface 46 (.int .i64 c)]) ∧ w' = w := by
  unfold badR at hc
  obtain ⟨d, hd⟩ : ∃ d, d = bad l room := ⟨_, rfl⟩
  have CK := Lib.hid (check_any p cap n room l w hn hi d hd)
  rw [← hd] at hc
  clear hn hi hd
  by_cases h1 : d = 0
  · rw [if_pos h1] at hc
    subst h1
    rw [er_0] at CK
    by_cases h2 : 0 ≤ s
    · by_cases h3 : s ≤ 1000
      · rw [if_pos ⟨h2, h3⟩] at hc
        exact absurd hc h0
      · have t2 : decide (s < 0) = false := decide_eq_false (by omega)
        have t3 : decide (s > 1000) = true := decide_eq_true (by omega)
        rw [if_neg (fun h => h3 h.2)] at hc
        subst hc
        clear h0
        go_enter Try.func16, Try.ntmps16
        go_wp2_with fail
        refine CK.out.mono ?_; rintro e w1 ⟨rfl, rfl⟩
        go_wp2_with fail
        go_ret3
        exact ⟨rfl, rfl⟩
    · have t2 : decide (s < 0) = true := decide_eq_true (by omega)
      rw [if_neg (fun h => h2 h.1)] at hc
      subst hc
      clear h0
      go_enter Try.func16, Try.ntmps16
      go_wp2_with fail
      refine CK.out.mono ?_; rintro e w1 ⟨rfl, rfl⟩
      go_wp2_with fail
      go_ret3
      exact ⟨rfl, rfl⟩
  · rw [if_neg h1] at hc
    subst hc
    rw [er_ne h1] at CK
    clear h1 h0
    go_enter Try.func16, Try.ntmps16
    go_wp2_with fail
    refine CK.out.mono ?_; rintro e w1 ⟨rfl, rfl⟩
    go_wp2_with fail
    go_ret3
    exact ⟨rfl, rfl⟩

set_option maxHeartbeats 4000000 in
theorem run_good (p : Option Addr) (cap n s : Nat) (room : Int) (l : List Int) (w : World) (hn : n = l.length) (hi : Ints w p cap l) (h0 : bad l room = 0) (hs : s ≤ 1000) :
    Calls Try.prog 16 #[.slice p n cap, .int .i64 room, .int .i64 (s : Int)] w fun e w' => (∃ v, e = .returned (.tuple #[v, .int .i64 (H room l s : Int), .nilIface]) ∧ OwnI w' w.heap.size v (rates room l s)) ∧ Below w.heap.size w w' := by
  obtain ⟨h1, h5, hf, hr1, hr2⟩ := bad_zero.1 h0
  have t2 : decide ((s : Int) < 0) = false := decide_eq_false (by omega)
  have t3 : decide ((s : Int) > 1000) = false := decide_eq_false (by omega)
  have CK := Lib.hid (check_any p cap n room l w hn hi 0 h0.symm)
  rw [er_0] at CK
  have HF := Lib.hid (fits_all hf)
  have HN := Lib.hid hn
  have H15 := Lib.hid (And.intro h1 h5)
  obtain ⟨b0, off0, rfl, _⟩ := hi.2.2.2 (by omega)
  have CLO := Lib.hid (clone_any ⟨b0, off0, none⟩ n cap l w hn hi (by omega))
  clear hi h0 hn hf h1 h5
  go_enter Try.func16, Try.ntmps16
  go_wp2_with fail
  refine CK.out.mono ?_; rintro e w1 ⟨rfl, rfl⟩
  go_wp2_with fail
  refine CLO.out.mono ?_; rintro e w2 ⟨v, rfl, ho, hb⟩
  obtain ⟨g, cp, rfl, hg1, hg2, hc1, hc2⟩ := own_pos ho (by have := H15.out; omega)
  rw [← HN.out] at hc1 ⊢
  have HO := Lib.hid ho
  rw [← HN.out] at HO
  have HB := Lib.hid hb
  clear ho hb CK CLO
  go_wp2_with fail
  generalize hw3 : w2.alloc _ = w3
  have hcb : w3.cell? ⟨w2.heap.size, 0, none⟩ = some (.slice (some ⟨g, 0, none⟩) n cp) := by subst hw3; go_simp
  have HX := Lib.hid (And.intro hcb (And.intro (show OwnI w3 w1.heap.size (.slice (some ⟨g, 0, none⟩) n cp) l by rw [← hw3]; exact HO.out.alloc _) (show Below w1.heap.size w1 w3 by rw [← hw3]; exact HB.out.alloc HB.out.size _)))
  have hne : w2.heap.size ≠ g := by omega
  have HNE := Lib.hid (And.intro hne (And.intro hg1 HB.out.size))
  clear hw3 hcb HO HB hne hg1 hg2
  generalize w2.heap.size = bx at HX HNE ⊢
  go_loopw [12, 30] (fun hv iv wr => ∃ k : Nat, k ≤ s ∧ iv = .int .i64 (k : Int) ∧ hv = .int .i64 (H room l k : Int) ∧ Hid (wr.cell? ⟨bx, 0, none⟩ = some (.slice (some ⟨g, 0, none⟩) n cp) ∧ OwnI wr w1.heap.size (.slice (some ⟨g, 0, none⟩) n cp) (rates room l k) ∧ Below w1.heap.size w1 wr)) (fun _ i _ => s - (intOf i).toNat)
  case atStart => exact ⟨0, Nat.zero_le _, rfl, rfl, by rw [rates_zero]; exact HX⟩
  case round =>
    obtain ⟨k, hk, rfl, rfl, HW⟩ := hrel
    obtain ⟨c0, ho, hb⟩ := HW.out
    by_cases hlt : k < s
    · have hin := rates_in (room := room) (k := k) HF.out
      have hlen : n = (rates room l k).length := by rw [rates_len]; exact HN.out
      have h15 := H15.out
      rw [← HN.out] at h15
      obtain ⟨p9, c9, e9, hi9⟩ := ho.form
      rw [← hlen] at e9
      injection e9 with e1 _ e3
      subst e1; subst e3
      have SM := Lib.hid (sum_any (some ⟨g, 0, none⟩) cp n (rates room l k) wr hlen hi9 (by omega) (fun x hx => by have := hin x hx; omega))
      have hsb := sum_bound (B := 10000) (fun x hx => (by have := hin x hx; omega : 0 ≤ x ∧ x ≤ 10000))
      rw [← hlen] at hsb
      have HL := Lib.hid (H_le (room := room) (l := l) (k := k))
      have CH := Lib.hid (change_half bx g n cp w1.heap.size (rates room l k) wr hlen ⟨hc1, hc2⟩ c0 HNE.out.1 ho (by omega) (fun x hx => by have := hin x hx; omega))
      have CM := Lib.hid (change_more bx g n cp w1.heap.size (rates room l k) wr hlen ⟨hc1, hc2⟩ c0 HNE.out.1 ho (by omega) (fun x hx => by have := hin x hx; omega))
      clear hi9 hin hlen h15 ho hb
      obtain ⟨T, hT⟩ : ∃ T, (rates room l k).sum = T := ⟨_, rfl⟩
      have HTT := Lib.hid hT
      rw [hT] at SM hsb
      clear hT
      by_cases hov : room < T
      · have t5 : decide (T > room) = true := decide_eq_true hov
        have HO := Lib.hid (And.intro (rates_over (by rw [HTT.out]; exact hov)) (H_over (by rw [HTT.out]; exact hov)))
        rw [← HO.out.1] at CH
        have hw := wrap_in (n := (H room l k : Int) + 1) (by have := HL.out; omega)
        clear CM hov
        go_wp2_with fail
        refine SM.out.mono ?_; rintro e w5 ⟨rfl, rfl⟩
        go_wp2_with fail
        refine CH.out.mono ?_; rintro e w6 ⟨rfl, ho6, hg6⟩
        have HW6 := Lib.hid (And.intro (box_keep HW.out.1 hg6 HNE.out.1) (And.intro ho6 (gbelow HW.out.2.2 (Nat.le_refl _) hg6 HNE.out.2.1)))
        clear ho6 hg6 CH SM HW c0
        go_wp2_with fail
        go_roundw
        case rel => exact ⟨k + 1, by omega, by first | rfl | go_num, by rw [HO.out.2]; first | rfl | go_num, HW6⟩
        case measure => simp [intOf]; omega
      · have t5 : decide (T > room) = false := decide_eq_false hov
        have HO := Lib.hid (And.intro (rates_under (by rw [HTT.out]; exact hov)) (H_under (by rw [HTT.out]; exact hov)))
        rw [← HO.out.1] at CM
        clear CH hov
        go_wp2_with fail
        refine SM.out.mono ?_; rintro e w5 ⟨rfl, rfl⟩
        go_wp2_with fail
        refine CM.out.mono ?_; rintro e w6 ⟨rfl, ho6, hg6⟩
        have HW6 := Lib.hid (And.intro (box_keep HW.out.1 hg6 HNE.out.1) (And.intro ho6 (gbelow HW.out.2.2 (Nat.le_refl _) hg6 HNE.out.2.1)))
        clear ho6 hg6 CM SM HW c0
        go_wp2_with fail
        go_roundw
        case rel => exact ⟨k + 1, by omega, by first | rfl | go_num, by rw [HO.out.2], HW6⟩
        case measure => simp [intOf]; omega
    · obtain rfl : k = s := by omega
      clear ho hb
      go_wp2_with fail
      go_ret3
      exact ⟨⟨_, rfl, HW.out.2.1⟩, HW.out.2.2⟩
end Go.Proofs.Ytggnpecmldnmnaa.Aimd
