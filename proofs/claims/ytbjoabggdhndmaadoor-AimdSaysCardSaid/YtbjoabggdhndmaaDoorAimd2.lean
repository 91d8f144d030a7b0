/- Package aimd: slices.Max, slices.Min, Apart, the loop over the rates with both closures, Run. No statement is proved here. -/
import Derived.Test.YtbjoabggdhndmaaDoorAimd1
import Derived.Deep.RegionLaw
import Derived.Test.YtbjoabggdhndmaaDoorOnce
namespace Go.Proofs.YtbjoabggdhndmaaDoor.Aimd
open Go.ChangeShapes Go.WideShapes Go.ChangeAt Go.RowKit Go.Proofs.YtbjoabggdhndmaaDoor.Kit Go.Proofs.YtbjoabggdhndmaaDoor.App Go.Proofs.YtbjoabggdhndmaaDoor.Err Go.Proofs.YtbjoabggdhndmaaDoor.AimdMath
set_option linter.unusedVariables false
set_option maxRecDepth 20000

set_option maxHeartbeats 1000000 in
theorem max_any (p : Option Addr) (cap n : Nat) (l : List Int) (w : World) (hn : n = l.length) (hi : Ints w p cap l) (h1 : 1 ≤ n) :
    Calls Tryd.prog 23 #[.slice p n cap] w fun e w' => e = .returned (.int .i64 (AimdMath.hi l)) ∧ w' = w := by
  have hlen := hi.len_le
  rw [← hn] at hlen
  have t0 : decide ((n : Int) < 1) = false := decide_eq_false (by omega)
  have HI := Lib.hid hi
  have HN := Lib.hid hn
  obtain ⟨b, off, rfl, _, hc⟩ := hi.2.2.2 (by omega)
  have hc0 := hc 0 (by omega)
  rw [Nat.add_zero] at hc0
  have HC := Lib.hid hc
  have HO := Lib.hid (one_take l (by omega))
  clear hi hn hc
  generalize l[0]?.getD 0 = x0 at hc0 HO
  go_enter Tryd.func23, Tryd.ntmps23
  go_wp2_with fail
  go_loopw [3, 4] (fun mv iv wr => ∃ k : Nat, ∃ m : Int, 1 ≤ k ∧ k ≤ n ∧ iv = .int .i64 k ∧ mv = .int .i64 m ∧ wr = w ∧ Hid (m = AimdMath.hi (l.take k))) (fun _ i _ => n - (intOf i).toNat)
  case atStart => exact ⟨1, x0, by omega, h1, rfl, rfl, rfl, Lib.hid (by rw [HO.out]; rfl)⟩
  case round =>
    obtain ⟨k, m, hk0, hk, rfl, rfl, rfl, HT⟩ := hrel
    by_cases hlt : k < n
    · have hkl : k < l.length := by rw [← HN.out]; exact hlt
      have hck := HC.out k hkl
      have HS := Lib.hid (hi_take l k (by omega) hkl)
      clear hkl
      generalize l[k]?.getD 0 = x at hck HS
      go_wp2_with fail
      go_roundw
      case rel => exact ⟨k + 1, max m x, by omega, by omega, by first | rfl | go_num, by first | rfl | (congr 1; omega) | (simp only [Int.max_def]; rfl), by first | trivial | rfl, Lib.hid (by rw [HS.out, HT.out])⟩
      case measure => simp [intOf]; omega
    · obtain rfl : k = n := by omega
      have hT : m = AimdMath.hi l := by rw [HT.out, List.take_of_length_le (by rw [← HN.out]; exact Nat.le_refl _)]
      clear HT
      subst hT
      go_wp2_with fail
      go_ret
      exact ⟨rfl, rfl⟩

set_option maxHeartbeats 1000000 in
theorem min_any (p : Option Addr) (cap n : Nat) (l : List Int) (w : World) (hn : n = l.length) (hi : Ints w p cap l) (h1 : 1 ≤ n) :
    Calls Tryd.prog 24 #[.slice p n cap] w fun e w' => e = .returned (.int .i64 (lo l)) ∧ w' = w := by
  have hlen := hi.len_le
  rw [← hn] at hlen
  have t0 : decide ((n : Int) < 1) = false := decide_eq_false (by omega)
  have HI := Lib.hid hi
  have HN := Lib.hid hn
  obtain ⟨b, off, rfl, _, hc⟩ := hi.2.2.2 (by omega)
  have hc0 := hc 0 (by omega)
  rw [Nat.add_zero] at hc0
  have HC := Lib.hid hc
  have HO := Lib.hid (one_take l (by omega))
  clear hi hn hc
  generalize l[0]?.getD 0 = x0 at hc0 HO
  go_enter Tryd.func24, Tryd.ntmps24
  go_wp2_with fail
  go_loopw [3, 4] (fun mv iv wr => ∃ k : Nat, ∃ m : Int, 1 ≤ k ∧ k ≤ n ∧ iv = .int .i64 k ∧ mv = .int .i64 m ∧ wr = w ∧ Hid (m = lo (l.take k))) (fun _ i _ => n - (intOf i).toNat)
  case atStart => exact ⟨1, x0, by omega, h1, rfl, rfl, rfl, Lib.hid (by rw [HO.out]; rfl)⟩
  case round =>
    obtain ⟨k, m, hk0, hk, rfl, rfl, rfl, HT⟩ := hrel
    by_cases hlt : k < n
    · have hkl : k < l.length := by rw [← HN.out]; exact hlt
      have hck := HC.out k hkl
      have HS := Lib.hid (lo_take l k (by omega) hkl)
      clear hkl
      generalize l[k]?.getD 0 = x at hck HS
      go_wp2_with fail
      go_roundw
      case rel => exact ⟨k + 1, min m x, by omega, by omega, by first | rfl | go_num, by first | rfl | (congr 1; omega) | (simp only [Int.min_def]; rfl), by first | trivial | rfl, Lib.hid (by rw [HS.out, HT.out])⟩
      case measure => simp [intOf]; omega
    · obtain rfl : k = n := by omega
      have hT : m = lo l := by rw [HT.out, List.take_of_length_le (by rw [← HN.out]; exact Nat.le_refl _)]
      clear HT
      subst hT
      go_wp2_with fail
      go_ret
      exact ⟨rfl, rfl⟩

theorem apart_bad (p : Option Addr) (cap n : Nat) (l : List Int) (w : World) (hn : n = l.length) (hi : Ints w p cap l) (c : Int) (hc : c = bad l 1) (h0 : c ≠ 0) :
    Calls Tryd.prog 12 #[.slice p n cap] w fun e w' => e = .returned (.tuple #[.int .i64 0, .iface 38 (.int .i64 c)]) ∧ w' = w := by
  have CK := Lib.hid (check_any p cap n 1 l w hn hi c hc)
  rw [er_ne h0] at CK
  clear hn hi hc h0
  go_enter Tryd.func12, Tryd.ntmps12
  go_wp2_with fail
  refine CK.out.mono ?_; rintro e w1 ⟨rfl, rfl⟩
  go_wp2_with fail
  go_ret2
  exact ⟨rfl, rfl⟩
theorem apart_good (p : Option Addr) (cap n : Nat) (l : List Int) (w : World) (hn : n = l.length) (hi : Ints w p cap l) (h0 : bad l 1 = 0) (D : Int) (hD : AimdMath.hi l - lo l = D) :
    Calls Tryd.prog 12 #[.slice p n cap] w fun e w' => e = .returned (.tuple #[.int .i64 D, .nilIface]) ∧ w' = w := by
  obtain ⟨h1, h5, hf, _⟩ := bad_zero.1 h0
  have CK := Lib.hid (check_any p cap n 1 l w hn hi 0 h0.symm)
  have MX := Lib.hid (max_any p cap n l w hn hi (by omega))
  have MI := Lib.hid (min_any p cap n l w hn hi (by omega))
  have b1 := fits_all hf _ (hi_mem (l := l) (by omega))
  have b2 := fits_all hf _ (lo_mem (l := l) (by omega))
  rw [er_0] at CK
  clear hn hi h0 h1 h5 hf
  generalize AimdMath.hi l = a at MX b1 hD
  generalize lo l = b at MI b2 hD
  have hw := wrap_in (n := a - b) (by omega)
  go_enter Tryd.func12, Tryd.ntmps12
  go_wp2_with fail
  refine CK.out.mono ?_; rintro e w1 ⟨rfl, rfl⟩
  go_wp2_with fail
  refine MX.out.mono ?_; rintro e w1 ⟨rfl, rfl⟩
  go_wp2_with fail
  refine MI.out.mono ?_; rintro e w1 ⟨rfl, rfl⟩
  go_wp2_with fail
  go_ret2
  exact ⟨by subst hD; rfl, rfl⟩

theorem own_set {w : World} {base g cap n : Nat} {l : List Int} (hown : OwnI w base (.slice (some ⟨g, 0, none⟩) n cap) l) (j : Nat) (x : Int) (hx : (Lit.int .i64 x).wf = true) :
    OwnI (w.setCell ⟨g, j, none⟩ (.int .i64 x)) base (.slice (some ⟨g, 0, none⟩) n cap) (l.set j x) := by
  obtain ⟨h1, h2⟩ := hown
  have hn : n = l.length := by
    rcases h1.2 with ⟨e, _⟩ | ⟨g', cap', cur, e, _⟩
    · cases e
    · injection e
  subst hn
  refine ⟨?_, fun y hy => ?_⟩
  · have := World.ownsRow.stored h1 j (.int .i64 x)
    rw [List.length_set, List.map_set]
    exact this.1
  · rcases List.mem_or_eq_of_mem_set hy with h | rfl
    · exact h2 y h
    · exact hx
theorem own_cell {w : World} {base g cap n : Nat} {l : List Int} (h : OwnI w base (.slice (some ⟨g, 0, none⟩) n cap) l) (k : Nat) (hk : k < l.length) : w.cell? ⟨g, k, none⟩ = some (.int .i64 (l[k]?.getD 0)) := by
  obtain ⟨p, c, e, hi⟩ := h.form
  injection e with e1 e2 e3
  subst e1
  obtain ⟨b, off, e, _, hc⟩ := hi.2.2.2 (by omega)
  injection e with e
  injection e with e4 e5
  subst e4; subst e5
  have := hc k hk
  rwa [Nat.zero_add] at this
theorem own_fz {w : World} {base g cap n : Nat} {l : List Int} (h : OwnI w base (.slice (some ⟨g, 0, none⟩) n cap) l) (k : Nat) : w.frozen? ⟨g, k, none⟩ = false := by
  obtain ⟨p, c, e, hi⟩ := h.form
  injection e with e1 e2 e3
  subst e2
  exact World.ownsRow.frozenAt h.1 k
theorem box_keep {w w' : World} {b g : Nat} {v : Value} (h : w.cell? ⟨b, 0, none⟩ = some v) (hg : w.grownBy w' (some g)) (hne : b ≠ g) : w'.cell? ⟨b, 0, none⟩ = some v := by
  have hlt : b < w.heap.size := by
    rcases Nat.lt_or_ge b w.heap.size with hlt | hge
    · exact hlt
    · unfold World.cell? at h; rw [Array.getElem?_eq_none hge] at h; simp at h
  exact (World.cell?_of_block (hg.block b hlt (fun e => hne (Option.some.inj e)))).trans h
theorem own_pos {w : World} {base : Nat} {v : Value} {l : List Int} (h : OwnI w base v l) (hl : 0 < l.length) : ∃ g cap, v = .slice (some ⟨g, 0, none⟩) l.length cap ∧ base ≤ g ∧ g < w.heap.size ∧ l.length ≤ cap ∧ cap ≤ 9223372036854775807 := by
  have hf := h.lt
  obtain ⟨⟨_, ⟨_, hn⟩ | ⟨g, cap, cur, rfl, hb, hh, hnc, hcm, _⟩⟩, _⟩ := h
  · omega
  · exact ⟨g, cap, rfl, hb, (hf g rfl).2, hnc, by unfold maxLen at hcm; omega⟩

set_option maxHeartbeats 2000000 in
theorem change_half (bx g n cap base : Nat) (l : List Int) (w : World) (hn : n = l.length) (hcap : n ≤ cap ∧ cap ≤ 9223372036854775807) (hbx : w.cell? ⟨bx, 0, none⟩ = some (.slice (some ⟨g, 0, none⟩) n cap)) (hne : bx ≠ g)
    (ho : OwnI w base (.slice (some ⟨g, 0, none⟩) n cap) l) (hl : l.length ≤ 5) (hb : ∀ x ∈ l, 0 ≤ x ∧ x ≤ 9000) :
    Calls Tryd.prog 19 #[.func (.func 21) #[] #[], .pointer (some ⟨bx, 0, none⟩)] w fun e w' => e = .returned (.tuple #[]) ∧ OwnI w' base (.slice (some ⟨g, 0, none⟩) n cap) (l.map (fun x => x / 2)) ∧ w.grownBy w' (some g) := by
  obtain ⟨hc1, hc2⟩ := hcap
  rw [← hn] at hl
  have HB := Lib.hid hb
  have HN := Lib.hid hn
  have HBX := Lib.hid hbx
  have HO := Lib.hid ho
  have HNE := Lib.hid hne
  have CL := Lib.hid (fun x W hx y hy => half_any x W hx y hy)
  clear ho hb hn hne
  go_enter Tryd.func19, Tryd.ntmps19
  go_wp2_with fail
  clear hbx
  go_loopw [7] (fun iv wr => ∃ k : Nat, k ≤ n ∧ iv = .int .i64 k ∧ Hid (OwnI wr base (.slice (some ⟨g, 0, none⟩) n cap) ((l.take k).map (fun x => x / 2) ++ l.drop k)) ∧ Hid (w.grownBy wr (some g))) (fun i _ => n - (intOf i).toNat)
  case atStart => exact ⟨0, Nat.zero_le _, rfl, Lib.hid (by simpa using HO.out), Lib.hid (grefl _ _)⟩
  case round =>
    obtain ⟨k, hk, rfl, HW, HG⟩ := hrel
    by_cases hlt : k < n
    · have hkl : k < l.length := by rw [← HN.out]; exact hlt
      have c0 := box_keep HBX.out HG.out HNE.out
      have hck := own_cell HW.out k (by rw [upto_len]; exact hkl)
      rw [upto_get] at hck
      have hfz := own_fz HW.out k
      have hx2 := HB.out (l[k]?.getD 0) (by rw [List.getElem?_eq_getElem hkl]; exact List.getElem_mem hkl)
      have HS := Lib.hid (map_upto (fun x => x / 2) l k hkl)
      clear hkl
      generalize l[k]?.getD 0 = x at hck hx2 HS
      obtain ⟨y, hy⟩ : ∃ y, x / 2 = y := ⟨_, rfl⟩
      have hy2 : -9223372036854775808 ≤ y ∧ y ≤ 9223372036854775807 := by omega
      have C := Lib.hid (fun W => CL.out x W (by omega) y hy)
      have HS2 := Lib.hid (show ((l.take k).map (fun x => x / 2) ++ l.drop k).set k y = (l.take (k + 1)).map (fun x => x / 2) ++ l.drop (k + 1) by have h := HS.out; rw [hy] at h; exact h)
      clear hx2 hy HS
      go_wp2_with fail
      go_region_law (first
        | (go_simp; go_at_call 21; refine (C.out _).mono ?_; rintro e w8 ⟨rfl, rfl⟩))
      all_goals
        have HW2 := Lib.hid (own_set HW.out k y (wf_in hy2))
        rw [HS2.out] at HW2
        have HG2 := Lib.hid (grown_set HG.out k (.int .i64 y))
        go_wp2_with fail
        go_roundw
        case rel => exact ⟨k + 1, by omega, by first | rfl | go_num, Lib.hid HW2.out, Lib.hid (by first | exact HG2.out | exact grown_drew HG2.out)⟩
        case measure => simp [intOf]; omega
    · obtain rfl : k = n := by omega
      have HR := Lib.hid (show OwnI wr base (.slice (some ⟨g, 0, none⟩) k cap) (l.map (fun x => x / 2)) by
        have h := HW.out
        rwa [List.take_of_length_le (by rw [← HN.out]; exact Nat.le_refl _), List.drop_eq_nil_of_le (by rw [← HN.out]; exact Nat.le_refl _), List.append_nil] at h)
      go_wp2_with fail
      refine bodyPost_end (results_none rfl _ _ _) rfl ?_
      exact ⟨rfl, HR.out, HG.out⟩

set_option maxHeartbeats 2000000 in
theorem change_more (bx g n cap base : Nat) (l : List Int) (w : World) (hn : n = l.length) (hcap : n ≤ cap ∧ cap ≤ 9223372036854775807) (hbx : w.cell? ⟨bx, 0, none⟩ = some (.slice (some ⟨g, 0, none⟩) n cap)) (hne : bx ≠ g)
    (ho : OwnI w base (.slice (some ⟨g, 0, none⟩) n cap) l) (hl : l.length ≤ 5) (hb : ∀ x ∈ l, 0 ≤ x ∧ x ≤ 9000) :
    Calls Tryd.prog 19 #[.func (.func 22) #[] #[], .pointer (some ⟨bx, 0, none⟩)] w fun e w' => e = .returned (.tuple #[]) ∧ OwnI w' base (.slice (some ⟨g, 0, none⟩) n cap) (l.map (fun x => x + 1)) ∧ w.grownBy w' (some g) := by
  obtain ⟨hc1, hc2⟩ := hcap
  rw [← hn] at hl
  have HB := Lib.hid hb
  have HN := Lib.hid hn
  have HBX := Lib.hid hbx
  have HO := Lib.hid ho
  have HNE := Lib.hid hne
  have CL := Lib.hid (fun x W hx y hy => more_any x W hx y hy)
  clear ho hb hn hne
  go_enter Tryd.func19, Tryd.ntmps19
  go_wp2_with fail
  clear hbx
  go_loopw [7] (fun iv wr => ∃ k : Nat, k ≤ n ∧ iv = .int .i64 k ∧ Hid (OwnI wr base (.slice (some ⟨g, 0, none⟩) n cap) ((l.take k).map (fun x => x + 1) ++ l.drop k)) ∧ Hid (w.grownBy wr (some g))) (fun i _ => n - (intOf i).toNat)
  case atStart => exact ⟨0, Nat.zero_le _, rfl, Lib.hid (by simpa using HO.out), Lib.hid (grefl _ _)⟩
  case round =>
    obtain ⟨k, hk, rfl, HW, HG⟩ := hrel
    by_cases hlt : k < n
    · have hkl : k < l.length := by rw [← HN.out]; exact hlt
      have c0 := box_keep HBX.out HG.out HNE.out
      have hck := own_cell HW.out k (by rw [upto_len]; exact hkl)
      rw [upto_get] at hck
      have hfz := own_fz HW.out k
      have hx2 := HB.out (l[k]?.getD 0) (by rw [List.getElem?_eq_getElem hkl]; exact List.getElem_mem hkl)
      have HS := Lib.hid (map_upto (fun x => x + 1) l k hkl)
      clear hkl
      generalize l[k]?.getD 0 = x at hck hx2 HS
      obtain ⟨y, hy⟩ : ∃ y, x + 1 = y := ⟨_, rfl⟩
      have hy2 : -9223372036854775808 ≤ y ∧ y ≤ 9223372036854775807 := by omega
      have C := Lib.hid (fun W => CL.out x W (by omega) y hy)
      have HS2 := Lib.hid (show ((l.take k).map (fun x => x + 1) ++ l.drop k).set k y = (l.take (k + 1)).map (fun x => x + 1) ++ l.drop (k + 1) by have h := HS.out; rw [hy] at h; exact h)
      clear hx2 hy HS
      go_wp2_with fail
      go_region_law (first
        | (go_simp; go_at_call 22; refine (C.out _).mono ?_; rintro e w8 ⟨rfl, rfl⟩))
      all_goals
        have HW2 := Lib.hid (own_set HW.out k y (wf_in hy2))
        rw [HS2.out] at HW2
        have HG2 := Lib.hid (grown_set HG.out k (.int .i64 y))
        go_wp2_with fail
        go_roundw
        case rel => exact ⟨k + 1, by omega, by first | rfl | go_num, Lib.hid HW2.out, Lib.hid (by first | exact HG2.out | exact grown_drew HG2.out)⟩
        case measure => simp [intOf]; omega
    · obtain rfl : k = n := by omega
      have HR := Lib.hid (show OwnI wr base (.slice (some ⟨g, 0, none⟩) k cap) (l.map (fun x => x + 1)) by
        have h := HW.out
        rwa [List.take_of_length_le (by rw [← HN.out]; exact Nat.le_refl _), List.drop_eq_nil_of_le (by rw [← HN.out]; exact Nat.le_refl _), List.append_nil] at h)
      go_wp2_with fail
      refine bodyPost_end (results_none rfl _ _ _) rfl ?_
      exact ⟨rfl, HR.out, HG.out⟩
end Go.Proofs.YtbjoabggdhndmaaDoor.Aimd
