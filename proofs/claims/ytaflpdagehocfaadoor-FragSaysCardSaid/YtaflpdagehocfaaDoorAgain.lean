/- The contracts of the document's cutting of parts. No statement is proved here. -/
import Derived.Test.YtaflpdagehocfaaDoorCut
import Derived.Test.YtaflpdagehocfaaDoorPartBox
import Derived.Deep.RegionHeld3
namespace Go.Proofs.YtaflpdagehocfaaDoor.Part
open Go.ChangeShapes Go.WideShapes Go.ChangeAt Go.RowKit Go.Proofs.YtaflpdagehocfaaDoor.Kit Go.Proofs.YtaflpdagehocfaaDoor.App Go.Proofs.YtaflpdagehocfaaDoor.Cells
set_option linter.unusedVariables false
set_option maxRecDepth 20000

theorem rright (x : Prt) (w : World) (hF : Fits x) (R : Bool) (h : R = right x) :
    Calls Tryd.prog 18 #[val x] w fun e w' => e = .returned (.bool R) ∧ Below w.heap.size w w' := by
  obtain ⟨a, b, s⟩ := x
  subst h
  have hb := bounds_int hF.1
  have hs : s.size ≤ maxLen := hF.2
  unfold maxLen at hs
  simp only at hb
  by_cases h1 : 0 ≤ a ∧ a ≤ 200
  · have IN := Lib.hid (fun W => rin a 0 200 W true (by simp [h1.1, h1.2]))
    have h2 := h1.1
    have h3 := h1.2
    have hr : right ⟨a, b, s⟩ = decide ((s.size : Int) ≤ 200 - a) := by simp [right, h2, h3]
    rw [hr]
    unfold val
    go_enter Tryd.func18, Tryd.ntmps18
    go_wp2_with fail
    refine (IN.out _).mono ?_; rintro e w' ⟨rfl, rfl⟩
    go_wp2_with fail
    go_ret
    exact ⟨rfl, balloc (brefl w) _⟩
  · have hf : (decide (0 ≤ a) && decide (a ≤ 200)) = false := by simp; omega
    have IN := Lib.hid (fun W => rin a 0 200 W false hf.symm)
    have hr : right ⟨a, b, s⟩ = false := by unfold right; rw [hf]; rfl
    rw [hr]
    unfold val
    go_enter Tryd.func18, Tryd.ntmps18
    go_wp2_with fail
    refine (IN.out _).mono ?_; rintro e w' ⟨rfl, rfl⟩
    go_wp2_with fail
    go_ret
    exact ⟨rfl, balloc (brefl w) _⟩

set_option maxHeartbeats 1000000 in
theorem ragain_some (x : Prt) (n : Nat) (w : World) (hF : Fits x) (hr : right x = true) (hn : 0 < n) (hn2 : n ≤ 200) (h40 : more x.dat n < 40) :
    Calls Tryd.prog 9 #[val x, .int .i64 n] w fun e w' => ∃ v, e = .returned (.tuple #[v, .int .i64 0]) ∧ OC lay 23 w' w.heap.size v ((parts x.dat n).map (moved x)) ∧ Below w.heap.size w w' := by
  have RR := Lib.hid (fun W => rright x W hF true hr.symm)
  obtain ⟨a, b, s⟩ := x
  have hr' : (0 ≤ a ∧ a ≤ 200) ∧ (s.size : Int) ≤ 200 - a := by simpa [right] using hr
  obtain ⟨⟨h1, h2⟩, h3⟩ := hr'
  have h4 : s.size ≤ 200 := by omega
  have CUT := Lib.hid (fun W => rcut_some s n W h4 hn hn2 h40)
  unfold val at RR ⊢
  simp only at RR h40 ⊢
  go_enter Tryd.func9, Tryd.ntmps9
  go_wp2_with fail
  refine (RR.out _).mono ?_; rintro e w1 ⟨rfl, hb1⟩
  have hB1 := (balloc (brefl w) _).trans (hb1.mono (by simp))
  have bx1 := (Box.new w ⟨a, b, s⟩ 23).below hb1 (by simp)
  have BX1 := Lib.hid bx1
  obtain ⟨_, c10, c11, c12⟩ := bx1
  simp only at c10 c11 c12
  go_wp2_with fail
  refine (CUT.out _).mono ?_; rintro e w2 ⟨v2, rfl, hown2, hb2⟩
  have hB2 := bcall hB1 hb2
  obtain ⟨p2, cap2, rfl, hCI2⟩ := hown2.form
  have BX2 := Lib.hid (BX1.out.below hb2 BX1.out.1)
  clear c10 c11 c12 hb1 hB1 BX1 RR CUT hown2
  have hpl := parts_len s n
  obtain ⟨L, hL⟩ : ∃ L, parts s n = L := ⟨_, rfl⟩
  rw [hL] at hCI2 hpl
  have hLl : L.length ≤ 40 := by omega
  rw [hL]
  have HP := Lib.hid hL
  clear hL
  go_wp2_with fail
  go_loopw [8, 9] (fun v iv wr => ∃ k : Nat, k ≤ L.length ∧ iv = .int .i64 k ∧ OC lay 23 wr w2.heap.size v ((L.take k).map (moved ⟨a, b, s⟩)) ∧ Below w2.heap.size w2 wr) (fun _ i _ => L.length - (intOf i).toNat)
  case atStart => exact ⟨0, Nat.zero_le _, rfl, OC.nil _ _ _ _, brefl _⟩
  case round =>
    obtain ⟨k, hk, rfl, hown, hB⟩ := hrel
    by_cases hlt : k < L.length
    · obtain ⟨q1, off1, rfl, hq1, hc1⟩ := hCI2.2.2 (by omega)
      obtain ⟨⟨a1, b1, s1⟩, hx⟩ : ∃ x, L[k]? = some x := ⟨_, List.getElem?_eq_getElem hlt⟩
      have hx0 : w2.cell? ⟨q1, off1 + k * 3, none⟩ = some (.int .i64 a1) := hc1 k _ hx 0 _ rfl
      have hx1 : w2.cell? ⟨q1, off1 + k * 3 + 1, none⟩ = some (.bool b1) := hc1 k _ hx 1 _ rfl
      have hx2 : w2.cell? ⟨q1, off1 + k * 3 + 2, none⟩ = some (.string s1) := hc1 k _ hx 2 _ rfl
      have hbx := BX2.out
      have H5 := Lib.hid (fun W (hW : Below w2.heap.size w2 W) => And.intro (hbx.below hW hbx.1).2.1 (And.intro (hbx.below hW hbx.1).2.2.1 (And.intro ((hW.cell (p := ⟨q1, off1 + k * 3, none⟩) hq1).trans hx0)
        (And.intro ((hW.cell (p := ⟨q1, off1 + k * 3 + 1, none⟩) hq1).trans hx1) ((hW.cell (p := ⟨q1, off1 + k * 3 + 2, none⟩) hq1).trans hx2)))))
      have HS := Lib.hid (show (L.take (k + 1)).map (moved ⟨a, b, s⟩) = (L.take k).map (moved ⟨a, b, s⟩) ++ [moved ⟨a, b, s⟩ ⟨a1, b1, s1⟩] by rw [List.take_add_one, hx]; simp)
      have ha1 : 0 ≤ a1 ∧ a1 ≤ s.size := parts_pos s n hn ⟨a1, b1, s1⟩ (by rw [HP.out]; exact List.mem_of_getElem? hx)
      clear hx hc1 hx0 hx1 hx2 hbx
      have hBs := hB.size
      have hBd : Below w2.heap.size w2 wr.drew := hB.drew
      have hlk : ((L.take k).map (moved ⟨a, b, s⟩)).length ≤ 40 := by simp; omega
      obtain ⟨M, hM⟩ : ∃ M, (L.take k).map (moved ⟨a, b, s⟩) = M := ⟨_, rfl⟩
      rw [hM] at hown hlk HS
      clear hM
      have w1' : IntKind.i64.wrap (a + a1) = a + a1 := IntWalk.i64_in _ (by omega)
      cases b
      · go_wp2_with fail
        go_region_held3 (fun W' => W'.cell? ⟨w.heap.size, 0, none⟩ = some (.int .i64 a) ∧ W'.cell? ⟨w.heap.size, 1, none⟩ = some (.bool false) ∧ W'.cell? ⟨q1, off1 + k * 3, none⟩ = some (.int .i64 a1) ∧ W'.cell? ⟨q1, off1 + k * 3 + 1, none⟩ = some (.bool b1) ∧ W'.cell? ⟨q1, off1 + k * 3 + 2, none⟩ = some (.string s1))
          (first
            | exact H5.out _ hB
            | exact H5.out _ hBd
            | exact H5.out _ (hBd.alloc hBs _)
            | exact q9
            | go_keep)
          (first
            | (refine step_appC ty rfl (.tmp 26) (.tmp 50) rfl w2.heap.size _ _ (some ⟨wr.heap.size, 0, none⟩) 1 1 [moved ⟨a, false, s⟩ ⟨a1, b1, s1⟩] rfl (hown.drew.alloc _) rfl rfl (CI.one lay wr.drew _ _) (by rw [List.length_singleton]; omega) (Nat.le_trans hBs (by simp)) ?_
               intro va wa hoa hga hata
               have hba : Below w2.heap.size w2 wa := below_oneC (w := wr.drew) hBd hBs _ hown.drew hga
               have q9 := H5.out _ hba
               clear hata hga))
        go_wp2_with fail
        go_roundw
        case rel => exact ⟨k + 1, by omega, by go_num, by rw [HS.out]; exact hoa, hba⟩
        case measure => simp [intOf]; omega
      · go_wp2_with fail
        refine wp_region_held_drew (S := (fun W' => W'.cell? ⟨w.heap.size, 0, none⟩ = some (.int .i64 a) ∧ W'.cell? ⟨w.heap.size, 1, none⟩ = some (.bool true) ∧ W'.cell? ⟨q1, off1 + k * 3, none⟩ = some (.int .i64 a1) ∧ W'.cell? ⟨q1, off1 + k * 3 + 1, none⟩ = some (.bool b1) ∧ W'.cell? ⟨q1, off1 + k * 3 + 2, none⟩ = some (.string s1))) (by kernel_rfl) (H5.out _ hBd) (fun hHeld => ?_)
        refine wpAnyH_take (i := 0) (oi := ⟨some 26, _, _, _, _, _⟩) (v := ?v0) rfl (by kernel_rfl) (by kernel_rfl) (by kernel_rfl) (fun _ _ _ h => h) (Or.inl ⟨by rfl, ?hy0⟩) hHeld ?rest0
        case hy0 => (intro W hSw; (try dsimp only at hSw); go_simp; first | done | with_reducible rfl)
        simp only [Act.put, List.setIfInBounds_toArray, List.set_cons_zero, List.set_cons_succ]
        refine wpAnyH_take (i := 1) (oi := ⟨some 27, _, _, _, _, _⟩) (v := ?v1) rfl (by kernel_rfl) (by kernel_rfl) (by kernel_rfl) (fun _ _ _ h => h) (Or.inl ⟨by rfl, ?hy1⟩) hHeld ?rest1
        case hy1 => (intro W hSw; (try dsimp only at hSw); go_simp; first | done | with_reducible rfl)
        simp only [Act.put, List.setIfInBounds_toArray, List.set_cons_zero, List.set_cons_succ]
        refine wpAnyH_take (i := 2) (oi := ⟨some 28, _, _, _, _, _⟩) (v := ?v2) rfl (by kernel_rfl) (by kernel_rfl) (by kernel_rfl) (fun _ _ _ h => h) (Or.inl ⟨by rfl, ?hy2⟩) hHeld ?rest2
        case hy2 => (intro W hSw; (try dsimp only at hSw); go_simp; first | done | with_reducible rfl)
        simp only [Act.put, List.setIfInBounds_toArray, List.set_cons_zero, List.set_cons_succ]
        refine wpAnyH_take (i := 3) (oi := ⟨some 29, _, _, _, _, _⟩) (v := ?v3) rfl (by kernel_rfl) (by kernel_rfl) (by kernel_rfl) (fun _ _ _ h => h) (Or.inl ⟨by rfl, ?hy3⟩) hHeld ?rest3
        case hy3 => (intro W hSw; (try dsimp only at hSw); go_simp; first | done | with_reducible rfl)
        simp only [Act.put, List.setIfInBounds_toArray, List.set_cons_zero, List.set_cons_succ]
        refine wpAnyH_take (i := 4) (oi := ⟨some 30, _, _, _, _, _⟩) (v := ?v4) rfl (by kernel_rfl) (by kernel_rfl) (by kernel_rfl) (fun _ _ _ h => h) (Or.inl ⟨by rfl, ?hy4⟩) hHeld ?rest4
        case hy4 => (intro W hSw; (try dsimp only at hSw); go_simp; first | done | with_reducible rfl)
        simp only [Act.put, List.setIfInBounds_toArray, List.set_cons_zero, List.set_cons_succ]
        refine wpAnyH_take (i := 5) (oi := ⟨some 31, _, _, _, _, _⟩) (v := ?v5) rfl (by kernel_rfl) (by kernel_rfl) (by kernel_rfl) (fun _ _ _ h => h) (Or.inl ⟨by rfl, ?hy5⟩) hHeld ?rest5
        case hy5 => (intro W hSw; (try dsimp only at hSw); go_simp; first | done | with_reducible rfl)
        simp only [Act.put, List.setIfInBounds_toArray, List.set_cons_zero, List.set_cons_succ]
        refine wpAnyH_take (i := 6) (oi := ⟨some 32, _, _, _, _, _⟩) (v := ?v6) rfl (by kernel_rfl) (by kernel_rfl) (by kernel_rfl) (fun _ _ _ h => h) (Or.inl ⟨by rfl, ?hy6⟩) hHeld ?rest6
        case hy6 => (intro W hSw; (try dsimp only at hSw); go_simp; first | done | with_reducible rfl)
        simp only [Act.put, List.setIfInBounds_toArray, List.set_cons_zero, List.set_cons_succ]
        refine wpAnyH_take (i := 7) (oi := ⟨some 33, _, _, _, _, _⟩) (v := ?v7) rfl (by kernel_rfl) (by kernel_rfl) (by kernel_rfl) (fun _ _ _ h => h) (Or.inl ⟨by rfl, ?hy7⟩) hHeld ?rest7
        case hy7 => (intro W hSw; (try dsimp only at hSw); go_simp; first | done | with_reducible rfl)
        simp only [Act.put, List.setIfInBounds_toArray, List.set_cons_zero, List.set_cons_succ]
        refine wpAnyH_take (i := 8) (oi := ⟨some 34, _, _, _, _, _⟩) (v := ?v8) rfl (by kernel_rfl) (by kernel_rfl) (by kernel_rfl) (fun _ _ _ h => h) (Or.inl ⟨by rfl, ?hy8⟩) hHeld ?rest8
        case hy8 => (intro W hSw; (try dsimp only at hSw); go_simp; first | done | with_reducible rfl)
        simp only [Act.put, List.setIfInBounds_toArray, List.set_cons_zero, List.set_cons_succ]
        refine wpAnyH_take (i := 9) (oi := ⟨some 35, _, _, _, _, _⟩) (v := ?v9) rfl (by kernel_rfl) (by kernel_rfl) (by kernel_rfl) (fun _ _ _ h => h) (Or.inl ⟨by rfl, ?hy9⟩) hHeld ?rest9
        case hy9 => (intro W hSw; (try dsimp only at hSw); go_simp; first | done | with_reducible rfl)
        simp only [Act.put, List.setIfInBounds_toArray, List.set_cons_zero, List.set_cons_succ]
        refine wpAnyH_take (i := 10) (oi := ⟨some 36, _, _, _, _, _⟩) (v := ?v10) rfl (by kernel_rfl) (by kernel_rfl) (by kernel_rfl) (fun _ _ _ h => h) (Or.inl ⟨by rfl, ?hy10⟩) hHeld ?rest10
        case hy10 => (intro W hSw; (try dsimp only at hSw); go_simp; first | done | with_reducible rfl)
        simp only [Act.put, List.setIfInBounds_toArray, List.set_cons_zero, List.set_cons_succ]
        refine wpAnyH_take (i := 11) (oi := ⟨some 37, _, _, _, _, _⟩) (v := ?v11) rfl (by kernel_rfl) (by kernel_rfl) (by kernel_rfl) (fun _ _ _ h => h) (Or.inl ⟨by rfl, ?hy11⟩) hHeld ?rest11
        case hy11 => (intro W hSw; (try dsimp only at hSw); go_simp; first | done | with_reducible rfl)
        simp only [Act.put, List.setIfInBounds_toArray, List.set_cons_zero, List.set_cons_succ]
        refine wpAnyH_take (i := 12) (oi := ⟨some 38, _, _, _, _, _⟩) (v := undef) rfl (by kernel_rfl) (by kernel_rfl) (by kernel_rfl) (fun _ _ _ h => h) (Or.inr ⟨by rfl, rfl⟩) hHeld ?_
        simp only [Act.put, List.setIfInBounds_toArray, List.set_cons_zero, List.set_cons_succ]
        refine wpAnyH_take (i := 13) (oi := ⟨some 39, _, _, _, _, _⟩) (v := undef) rfl (by kernel_rfl) (by kernel_rfl) (by kernel_rfl) (fun _ _ _ h => h) (Or.inr ⟨by rfl, rfl⟩) hHeld ?_
        simp only [Act.put, List.setIfInBounds_toArray, List.set_cons_zero, List.set_cons_succ]
        refine wpAnyH_take (i := 14) (oi := ⟨some 40, _, _, _, _, _⟩) (v := undef) rfl (by kernel_rfl) (by kernel_rfl) (by kernel_rfl) (fun _ _ _ h => h) (Or.inr ⟨by rfl, rfl⟩) hHeld ?_
        simp only [Act.put, List.setIfInBounds_toArray, List.set_cons_zero, List.set_cons_succ]
        refine wpAnyH_take (i := 15) (oi := ⟨some 41, _, _, _, _, _⟩) (v := undef) rfl (by kernel_rfl) (by kernel_rfl) (by kernel_rfl) (fun _ _ _ h => h) (Or.inr ⟨by rfl, rfl⟩) hHeld ?_
        simp only [Act.put, List.setIfInBounds_toArray, List.set_cons_zero, List.set_cons_succ]
        refine wpAnyH_take (i := 16) (oi := ⟨some 42, _, _, _, _, _⟩) (v := undef) rfl (by kernel_rfl) (by kernel_rfl) (by kernel_rfl) (fun _ _ _ h => h) (Or.inr ⟨by rfl, rfl⟩) hHeld ?_
        simp only [Act.put, List.setIfInBounds_toArray, List.set_cons_zero, List.set_cons_succ]
        refine wpAnyH_take (i := 17) (oi := ⟨some 43, _, _, _, _, _⟩) (v := ?v17) rfl (by kernel_rfl) (by kernel_rfl) (by kernel_rfl) (fun _ _ _ h => h) (Or.inl ⟨by rfl, ?hy17⟩) hHeld ?rest17
        case hy17 => (intro W hSw; (try dsimp only at hSw); go_simp; first | done | with_reducible rfl)
        simp only [Act.put, List.setIfInBounds_toArray, List.set_cons_zero, List.set_cons_succ]
        refine wpAnyH_take (i := 18) (oi := ⟨some 44, _, _, _, _, _⟩) (v := ?v18) rfl (by kernel_rfl) (by kernel_rfl) (by kernel_rfl) (fun _ _ _ h => h) (Or.inl ⟨by rfl, ?hy18⟩) hHeld ?rest18
        case hy18 => (intro W hSw; (try dsimp only at hSw); go_simp; first | done | with_reducible rfl)
        simp only [Act.put, List.setIfInBounds_toArray, List.set_cons_zero, List.set_cons_succ]
        refine wpAnyH_take (i := 19) (oi := ⟨some 45, _, _, _, _, _⟩) (v := ?v19) rfl (by kernel_rfl) (by kernel_rfl) (by kernel_rfl) (fun _ _ _ h => h) (Or.inl ⟨by rfl, ?hy19⟩) hHeld ?rest19
        case hy19 => (intro W hSw; (try dsimp only at hSw); go_simp; first | done | with_reducible rfl)
        simp only [Act.put, List.setIfInBounds_toArray, List.set_cons_zero, List.set_cons_succ]
        refine wpAnyH_take (i := 20) (oi := ⟨some 46, _, _, _, _, _⟩) (v := ?v20) rfl (by kernel_rfl) (by kernel_rfl) (by kernel_rfl) (fun _ _ _ h => h) (Or.inl ⟨by rfl, ?hy20⟩) hHeld ?rest20
        case hy20 => (intro W hSw; (try dsimp only at hSw); go_simp; first | done | with_reducible rfl)
        simp only [Act.put, List.setIfInBounds_toArray, List.set_cons_zero, List.set_cons_succ]
        refine wpAnyH_take (i := 21) (oi := ⟨some 47, _, _, _, _, _⟩) (v := ?v21) rfl (by kernel_rfl) (by kernel_rfl) (by kernel_rfl) (fun _ _ _ h => h) (Or.inl ⟨by rfl, ?hy21⟩) hHeld ?rest21
        case hy21 => (intro W hSw; (try dsimp only at hSw); go_simp; first | done | with_reducible rfl)
        simp only [Act.put, List.setIfInBounds_toArray, List.set_cons_zero, List.set_cons_succ]
        refine wpAnyH_take (i := 22) (oi := ⟨some 48, _, _, _, _, _⟩) (v := ?v22) rfl (by kernel_rfl) (by kernel_rfl) (by kernel_rfl) (fun _ _ _ h => h) (Or.inl ⟨by rfl, ?hy22⟩) hHeld ?rest22
        case hy22 => (intro W hSw; (try dsimp only at hSw); go_simp; first | done | with_reducible rfl)
        simp only [Act.put, List.setIfInBounds_toArray, List.set_cons_zero, List.set_cons_succ]
        refine wpAnyH_take (i := 23) (oi := ⟨some 49, _, _, _, _, _⟩) (v := ?v23) rfl (by kernel_rfl) (by kernel_rfl) (by kernel_rfl) (fun _ _ _ h => h) (Or.inl ⟨by rfl, ?hy23⟩) hHeld ?rest23
        case hy23 => (intro W hSw; (try dsimp only at hSw); go_simp; first | done | with_reducible rfl)
        simp only [Act.put, List.setIfInBounds_toArray, List.set_cons_zero, List.set_cons_succ]
        refine wpAnyH_ready (rs := [24]) (by kernel_rfl) (by simp) ?_
        refine AllReadyH.cons (o := ⟨some 50, _, _, _, _, _⟩) rfl (fun K hK => ?_) AllReadyH.nil
        go_simp
        refine hK.out _ _ (H5.out _ (hBd.alloc hBs _)) (fun hHeld2 => ?_)
        clear hK K
        refine wpAnyH_ready (rs := [25]) (by kernel_rfl) (by simp) ?_
        refine AllReadyH.cons (o := ⟨some 51, _, _, _, _, _⟩) rfl (fun K hK => ?_) AllReadyH.nil
        refine step_appC ty rfl (.tmp 26) (.tmp 50) rfl w2.heap.size _ _ (some ⟨wr.heap.size, 0, none⟩) 1 1 [moved ⟨a, true, s⟩ ⟨a1, b1, s1⟩] rfl (hown.drew.alloc _) rfl rfl (CI.one lay wr.drew _ _) (by rw [List.length_singleton]; omega) (Nat.le_trans hBs (by simp)) ?_
        intro va wa hoa hga hata
        have hba : Below w2.heap.size w2 wa := below_oneC (w := wr.drew) hBd hBs _ hown.drew hga
        clear hata hga
        refine hK.out _ _ (H5.out _ hba) (fun hHeld3 => ?_)
        clear hK K
        simp only [Act.put, List.setIfInBounds_toArray, List.set_cons_zero, List.set_cons_succ]
        refine wpAnyH_ready (rs := [26]) (by kernel_rfl) (by simp) ?_
        refine AllReadyH.cons (o := ⟨some 8, _, _, _, _, _⟩) rfl (fun K hK => ?_) AllReadyH.nil
        go_simp
        refine hK.out _ _ hHeld3 (fun hHeld4 => ?_)
        clear hK K
        refine wpAnyH_done (by kernel_rfl) ?_ _
        go_wp2_with fail
        go_roundw
        case rel => exact ⟨k + 1, by omega, by go_num, by rw [HS.out]; exact hoa, hba⟩
        case measure => simp [intOf]; omega
    · obtain rfl : k = L.length := by omega
      rw [List.take_length, ← HP.out] at hown
      go_wp2_with fail
      go_ret2
      exact ⟨_, rfl, hown.mono hB2.size, bcall hB2 hB⟩
theorem ragain_wrong (x : Prt) (n : Int) (w : World) (hF : Fits x) (hr : right x = false) :
    Calls Tryd.prog 9 #[val x, .int .i64 n] w fun e w' => e = .returned (.tuple #[.slice none 0 0, .int .i64 1]) ∧ Below w.heap.size w w' := by
  have RR := Lib.hid (fun W => rright x W hF false hr.symm)
  obtain ⟨a, b, s⟩ := x
  unfold val at RR ⊢
  simp only at RR ⊢
  go_enter Tryd.func9, Tryd.ntmps9
  go_wp2_with fail
  refine (RR.out _).mono ?_; rintro e w1 ⟨rfl, hb1⟩
  have hB1 := (balloc (brefl w) _).trans (hb1.mono (by simp))
  go_wp2_with fail
  go_ret2
  exact ⟨rfl, hB1⟩
theorem ragain_bad (x : Prt) (n m : Int) (w : World) (hF : Fits x) (hr : right x = true)
    (hc : ∀ W, Calls Tryd.prog 5 #[.string x.dat, .int .i64 n] W fun e w' => e = .returned (.tuple #[.slice none 0 0, .int .i64 m]) ∧ Below W.heap.size W w') :
    Calls Tryd.prog 9 #[val x, .int .i64 n] w fun e w' => e = .returned (.tuple #[.slice none 0 0, .int .i64 m]) ∧ Below w.heap.size w w' := by
  have RR := Lib.hid (fun W => rright x W hF true hr.symm)
  have CUT := Lib.hid hc
  obtain ⟨a, b, s⟩ := x
  unfold val at RR ⊢
  simp only at RR CUT ⊢
  clear hc
  go_enter Tryd.func9, Tryd.ntmps9
  go_wp2_with fail
  refine (RR.out _).mono ?_; rintro e w1 ⟨rfl, hb1⟩
  have hB1 := (balloc (brefl w) _).trans (hb1.mono (by simp))
  have bx1 := (Box.new w ⟨a, b, s⟩ 23).below hb1 (by simp)
  obtain ⟨_, c10, c11, c12⟩ := bx1
  simp only at c10 c11 c12
  go_wp2_with fail
  refine (CUT.out _).mono ?_; rintro e w2 ⟨rfl, hb2⟩
  have hB2 := bcall hB1 hb2
  clear hB1 hb1 hb2 c10 c11 c12 RR CUT
  go_wp2_with fail
  refine wp_loop_rounds 1 ?_
  rw [rounds_succ]
  go_wp2_with fail
  go_ret2
  exact ⟨rfl, hB2⟩
end Go.Proofs.YtaflpdagehocfaaDoor.Part
