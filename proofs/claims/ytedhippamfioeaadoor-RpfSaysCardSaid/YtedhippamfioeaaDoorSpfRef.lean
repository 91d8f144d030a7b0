/- The document's answer on shortest paths: Far as it stands here, Hop. No statement is proved here. -/
import Derived.Test.YtedhippamfioeaaDoorSpfTrail
import Derived.Test.YtedhippamfioeaaDoorSpfFar
import Derived.BigQuiet
namespace Go.Proofs.YtedhippamfioeaaDoor.Spf
open Go.ChangeShapes Go.WideShapes Go.ChangeAt Go.RowKit Go.Proofs.YtedhippamfioeaaDoor.Kit Go.Proofs.YtedhippamfioeaaDoor.App Go.Proofs.YtedhippamfioeaaDoor.Cells Go.Proofs.YtedhippamfioeaaDoor.Err Go.Proofs.YtedhippamfioeaaDoor.Vector
set_option linter.unusedVariables false
set_option maxRecDepth 20000
set_option maxHeartbeats 2000000

theorem rhop_any (n s t : Nat) (p : Option Addr) (cap m : Nat) (ls : List Lk) (w : World) (g : Vector.Good n ls) (hm : m = ls.length) (hi : CI layL w p cap ls) (hs : s < n) (ht : t < n) :
    Calls Tryd.prog 10 #[.int .i64 (n : Int), .slice p m cap, .int .i64 (s : Int), .int .i64 (t : Int)] w fun e w' => e = .returned (.int .i64 (hop ls s t)) ∧ Below w.heap.size w w' := by
  have hn8 := g.up
  have FR := Lib.hid (rfar_ds n t p cap m ls w g hm hi ht)
  have RC := Lib.hid (fun W (hW : Below w.heap.size w W) v => rcost_any p cap m ls (s : Int) (v : Int) W hm (hi.below hW))
  have HG := Lib.hid g
  have HS := Lib.hid hs
  have HT := Lib.hid ht
  have hs' : (s : Int) < (n : Int) := by omega
  obtain ⟨h, hh⟩ : ∃ h, hop ls s t = h := ⟨_, rfl⟩
  rw [hh]
  have HH := Lib.hid hh
  clear g hm hi hs ht hh
  go_enter Tryd.func10, Tryd.ntmps10
  go_wp2_with fail
  refine FR.out.mono ?_; rintro e w1 ⟨q, c, rfl, hi, hb⟩
  have HB := Lib.hid hb
  obtain ⟨b, off, hq, hlt, hcell⟩ := hi.2.2.2 (by rw [rw1_len]; omega)
  subst hq
  have CL := Lib.hid (fun W (hW : Below w1.heap.size w1 W) j (hj : j < n) => (show W.cell? ⟨b, off + j, none⟩ = some (.int .i64 (ds ls j t)) from by
    rw [hW.cell (p := ⟨b, off + j, none⟩) hlt, hcell j (by rw [rw1_len]; exact hj), rw1_get _ _ hj, ds_sym HG.out]))
  have cs := CL.out w1 (brefl _) s HS.out
  clear FR hb hi hlt hcell
  by_cases hst : s = t
  · have u0 : ((s : Int) == (t : Int)) = true := by rw [hst]; simp
    have HE := Lib.hid (show h = -1 by rw [← HH.out]; exact hop_none HG.out (.inl hst))
    clear hst
    go_wp2_with fail
    go_ret
    exact ⟨by rw [HE.out]; rfl, HB.out⟩
  have u0 : ((s : Int) == (t : Int)) = false := beq_eq_false_iff_ne.2 (by omega)
  by_cases hd : ds ls s t = 1000
  · have u1 : (ds ls s t == 1000) = true := by rw [hd]; rfl
    have HE := Lib.hid (show h = -1 by rw [← HH.out]; exact hop_none HG.out (.inr hd))
    clear hd hst
    go_wp2_with fail
    go_ret
    exact ⟨by rw [HE.out]; rfl, HB.out⟩
  have u1 : (ds ls s t == 1000) = false := beq_eq_false_iff_ne.2 hd
  have HA := Lib.hid (show ¬ away ls s t from fun e => by rcases e with e | e; exact hst e; exact hd e)
  have bf := And.intro (ds_nat HG.out s t) (ds_top HG.out s t)
  obtain ⟨f, hf⟩ : ∃ f, ds ls s t = f := ⟨_, rfl⟩
  have HF := Lib.hid hf
  rw [hf] at cs u1 bf
  clear hst hd hf
  go_wp2_with fail
  clear cs u0 u1
  go_loopw [10] (fun iv wr => ∃ i : Nat, i ≤ n ∧ iv = .int .i64 i ∧ Hid (∀ u, u < i → ¬ nb ls s t u) ∧ Hid (Below w1.heap.size w1 wr)) (fun i _ => n - (intOf i).toNat)
  case atStart => exact ⟨0, Nat.zero_le _, rfl, Lib.hid (fun u hu => absurd hu (Nat.not_lt_zero _)), Lib.hid (brefl _)⟩
  case round =>
    obtain ⟨i, hin, rfl, HN, HR⟩ := hrel
    by_cases hlt : i < n
    · have v0 : decide ((i : Int) < (n : Int)) = true := decide_eq_true (by omega)
      have v1 : (i : Int) < (n : Int) := by omega
      have c0 := CL.out wr HR.out i hlt
      have c1 := CL.out wr HR.out s HS.out
      rw [HF.out] at c1
      have HNX := Lib.hid (show ¬ (co ls s i ≠ 1000 ∧ co ls s i + ds ls i t = f) → ∀ u, u < i + 1 → ¬ nb ls s t u from fun hx u hu => by
        by_cases e : u = i
        · rw [e]; exact fun hn => hx ⟨hn.1, by rw [← HF.out]; exact hn.2⟩
        · exact HN.out u (by omega))
      have HYS := Lib.hid (show (co ls s i ≠ 1000 ∧ co ls s i + ds ls i t = f) → h = (i : Int) from fun hx => by rw [← HH.out]; exact hop_eq HG.out (.inr ⟨HA.out, i, rfl, ⟨hx.1, by rw [HF.out]; exact hx.2⟩, HN.out⟩))
      have HW := Lib.hid (fun k => bdrewN HR.out k)
      have CC := Lib.hid (fun k => RC.out (wr.drewN k) (bcall HB.out (HW.out k)) i)
      change Hid (∀ k, Calls _ _ _ _ fun e w' => e = .returned (.int .i64 (co ls s i)) ∧ w' = wr.drewN k) at CC
      have hcs := co_self HG.out s
      have hcf := fun h => co_few HG.out (i := s) (j := i) h
      have hbd := And.intro (ds_nat HG.out i t) (ds_top HG.out i t)
      by_cases his : i = s
      · have k0 : ((i : Int) != (s : Int)) = false := by rw [his]; simp
        have HN2 := Lib.hid (HNX.out (fun e => e.1 (by rw [his]; exact hcs)))
        clear his hcs hcf HNX HYS hbd
        go_wp2_with fail
        go_quiet (fail)
        go_wp2_with fail
        go_roundw
        case rel => exact ⟨i + 1, by omega, by first | rfl | go_num, HN2, Lib.hid (HW.out _)⟩
        case measure => simp [intOf]; omega
      have k0 : ((i : Int) != (s : Int)) = true := by rw [bne_iff_ne]; omega
      clear his hcs
      obtain ⟨d, hd⟩ : ∃ d, co ls s i = d := ⟨_, rfl⟩
      rw [hd] at CC HNX HYS hcf
      clear hd
      by_cases h1 : d = 1000
      · have k1 : decide (d < 1000) = false := decide_eq_false (by omega)
        have HN2 := Lib.hid (HNX.out (fun e => e.1 h1))
        clear h1 hcf HNX HYS hbd
        go_wp2_with fail
        go_quiet ((go_at_call 13; refine Calls.quiet_of_same (CC.out _)))
        go_wp2_with fail
        go_roundw
        case rel => exact ⟨i + 1, by omega, by first | rfl | go_num, HN2, Lib.hid (HW.out _)⟩
        case measure => simp [intOf]; omega
      have hdb := hcf h1
      have k1 : decide (d < 1000) = true := decide_eq_true (by omega)
      obtain ⟨y, hy⟩ : ∃ y, ds ls i t = y := ⟨_, rfl⟩
      rw [hy] at c0 HNX HYS hbd
      obtain ⟨z, hz⟩ : ∃ z, d + y = z := ⟨_, rfl⟩
      have hw : IntKind.i64.wrap (d + y) = z := by rw [← hz]; exact wrap_in (n := d + y) ⟨by omega, by omega⟩
      rw [hz] at HNX HYS
      by_cases h2 : z = f
      · have k2 : (z == f) = true := by rw [h2]; simp
        have HE := Lib.hid (HYS.out ⟨h1, h2⟩)
        have HBF := Lib.hid (fun k => bcall HB.out (HW.out k))
        clear h1 h2 hcf HNX HYS hbd hdb hy hz
        go_wp2_with fail
        go_quiet ((go_at_call 13; refine Calls.quiet_of_same (CC.out _)))
        go_wp2_with fail
        go_ret
        exact ⟨by rw [HE.out]; rfl, HBF.out _⟩
      · have k2 : (z == f) = false := beq_eq_false_iff_ne.2 h2
        have HN2 := Lib.hid (HNX.out (fun e => h2 e.2))
        clear h1 h2 hcf HNX HYS hbd hdb hy hz
        go_wp2_with fail
        go_quiet ((go_at_call 13; refine Calls.quiet_of_same (CC.out _)))
        go_wp2_with fail
        go_roundw
        case rel => exact ⟨i + 1, by omega, by first | rfl | go_num, HN2, Lib.hid (HW.out _)⟩
        case measure => simp [intOf]; omega
    · obtain rfl : i = n := by omega
      exfalso
      obtain ⟨v, _, hv, _, hvn⟩ := hop_some HG.out HA.out
      exact HN.out v hvn hv
end Go.Proofs.YtedhippamfioeaaDoor.Spf
