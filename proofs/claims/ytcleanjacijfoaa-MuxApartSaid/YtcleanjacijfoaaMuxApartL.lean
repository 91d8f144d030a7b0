/- What lacks in one stream holds up nothing of the others: the law returns true for every input. No condition. -/
import Derived.Test.YtcleanjacijfoaaMuxFact
import Derived.Test.YtcleanjacijfoaaMuxLawM
namespace Go.Proofs.Ytcleanjacijfoaa.MuxApartL
open Go.ChangeShapes Go.WideShapes Go.ChangeAt Go.RowKit
open Go.Proofs.Ytcleanjacijfoaa.Kit Go.Proofs.Ytcleanjacijfoaa.App Go.Proofs.Ytcleanjacijfoaa.Cells Go.Proofs.Ytcleanjacijfoaa.Err Go.Proofs.Ytcleanjacijfoaa.Mux
set_option linter.unusedVariables false
set_option maxRecDepth 20000
set_option maxHeartbeats 2000000

theorem law_any (p : Option Addr) (cap : Nat) (ls : List Frm) (st : Int) (s : ByteArray) (w : World) (hi : CI lay w p cap ls) :
    Calls Try.prog 4 #[.slice p ls.length cap, .int .i64 st, .string s] w fun e w' => e = .returned (.bool true) ∧ Below w.heap.size w w' := by
  have FA := Lib.hid (fact_any w)
  have HI := Lib.hid hi
  have hlen := hi.len_le
  have HOk := Lib.hid (show Okm z0 z0 from Okm.zero)
  have HZ0 : Hid (isS st → ∀ j, j < 200 → z0 (200 * st.toNat + j) = 0) := Lib.hid (fun _ _ _ => rfl)
  have FO := Lib.hid (fun W => frame_any st 0 s W)
  clear hi
  go_enter Try.func4, Try.ntmps4
  go_wp2_with fail
  refine FA.out.mono ?_; rintro e w1 ⟨rfl, hb1⟩
  have HB1 := Lib.hid hb1
  have HI1 := Lib.hid (HI.out.below hb1)
  clear hb1 HI FA
  go_wp2_with fail
  refine (new_any _).mono ?_; rintro e w2 ⟨rfl, hE, hb2⟩
  obtain ⟨g, hg⟩ : ∃ g, w1.heap.size = g := ⟨_, rfl⟩
  rw [hg] at hE ⊢
  have HE2 := Lib.hid (show Mux.Ends w2 g z0 z0 from hE)
  have HI2 := Lib.hid (HI1.out.below hb2)
  have HB2 := Lib.hid (bcall HB1.out hb2)
  have HG : Hid (w.heap.size ≤ g) := Lib.hid (by rw [← hg]; exact HB1.out.size)
  have HG2 : Hid (∀ a, p = some a → 0 < ls.length → a.block < g) := Lib.hid (fun a ha h0 => by
    obtain ⟨b, off, e, hb, _⟩ := HI1.out.2.2 h0
    rw [e] at ha
    injection ha with ha
    rw [← ha, ← hg]
    exact hb)
  clear hE hb2 hg HI1 HB1
  go_wp2_with fail
  obtain ⟨n, hn⟩ : ∃ n, ls.length = n := ⟨_, rfl⟩
  rw [hn] at hlen HG2 ⊢
  have HN := Lib.hid hn
  clear hn
  go_loopw [9] (fun iv wr => ∃ (k : Nat) (d : Nat → Nat), k ≤ n ∧ iv = .int .i64 (k : Int) ∧ Hid (Mux.Ends wr g d z0) ∧ Hid (Okm d z0) ∧ Hid (isS st → ∀ j, j < 200 → d (200 * st.toNat + j) = 0) ∧ Hid (w2.grownBy wr (some g))) (fun i _ => n - (intOf i).toNat)
  case atStart => exact ⟨0, z0, Nat.zero_le _, rfl, HE2, HOk, HZ0, Lib.hid (grefl _ _)⟩
  case round =>
    obtain ⟨k, d, hk, rfl, HE, HO, HZ, HW⟩ := hrel
    clear HE2 HOk HZ0
    by_cases hlt : k < n ∧ k < 30
    · obtain ⟨h1, h2⟩ := hlt
      have u1 : decide ((k : Int) < (n : Int)) = true := decide_eq_true (by omega)
      have u2 : decide ((k : Int) < 30) = true := decide_eq_true (by omega)
      obtain ⟨b, off, rfl, hbl, hc⟩ := HI2.out.2.2 (by rw [HN.out]; omega)
      have hbg : b < g := HG2.out _ rfl (by omega)
      obtain ⟨x, hx⟩ : ∃ x, ls[k]? = some x := ⟨_, List.getElem?_eq_getElem (by rw [HN.out]; exact h1)⟩
      have hkeep : wr.heap[b]? = w2.heap[b]? := HW.out.block b hbl (by simp; omega)
      have q0 : wr.cell? ⟨b, off + k * 3, none⟩ = some (.int .i64 x.st) := (World.cell?_of_block (w := w2) (a := ⟨b, off + k * 3, none⟩) hkeep).trans (hc k x hx 0 _ rfl)
      have q1 : wr.cell? ⟨b, off + k * 3 + 1, none⟩ = some (.int .i64 x.pos) := (World.cell?_of_block (w := w2) (a := ⟨b, off + k * 3 + 1, none⟩) hkeep).trans (hc k x hx 1 _ rfl)
      have q2 : wr.cell? ⟨b, off + k * 3 + 2, none⟩ = some (.string x.dat) := (World.cell?_of_block (w := w2) (a := ⟨b, off + k * 3 + 2, none⟩) hkeep).trans (hc k x hx 2 _ rfl)
      by_cases hst : x.st = st
      · have u3 : (x.st != st) = false := by rw [hst]; simp
        obtain ⟨xa, xb, xs⟩ := x
        simp only at q0 q1 q2 u3 hst
        subst hst
        clear hc hx hkeep
        go_wp2_with fail
        go_roundw
        case rel => exact ⟨k + 1, d, by omega, by first | rfl | go_num, HE, HO, HZ, HW⟩
        case measure => simp [intOf]; omega
      · have u3 : (x.st != st) = true := by simp [hst]
        obtain ⟨cc, hcc⟩ : ∃ cc, codeM d x = cc := ⟨_, rfl⟩
        obtain ⟨D, hD⟩ : ∃ D, putM d x = D := ⟨_, rfl⟩
        have P := Lib.hid (put_any g d z0 x wr HE.out cc hcc D hD)
        have HO2 : Hid (Okm D z0) := Lib.hid (by rw [← hD]; exact HO.out.put x)
        have HZ2 : Hid (isS st → ∀ j, j < 200 → D (200 * st.toNat + j) = 0) := Lib.hid (fun hs j hj => by
          rw [← hD, putM_other d x (n := st.toNat) (by have := hs.1; rw [show ((st.toNat : Nat) : Int) = st by omega]; exact hst) hj]
          exact HZ.out hs j hj)
        unfold val at P
        clear hc hx hkeep hcc hD
        obtain ⟨xa, xb, xs⟩ := x
        simp only at q0 q1 q2 P u3 hst
        go_wp2_with fail
        refine P.out.mono ?_; rintro e w3 ⟨rfl, hE3, hg3⟩
        have HE3 := Lib.hid hE3
        have HW3 := Lib.hid (gtrans HW.out hg3)
        generalize er cc = ev
        clear hE3 hg3 P q0 q1 q2
        go_wp2_with fail
        go_roundw
        case rel => exact ⟨k + 1, D, by omega, by first | rfl | go_num, HE3, HO2, HZ2, HW3⟩
        case measure => simp [intOf]; omega
    · by_cases h1 : k < n
      · have u1 : decide ((k : Int) < (n : Int)) = true := decide_eq_true (by omega)
        have u2 : decide ((k : Int) < 30) = false := decide_eq_false (by omega)
        clear hlt
        have HB3 := Lib.hid (gb HB2.out HW.out HG.out)
        clear HW HB2 HI2 HG2
        by_cases hs : isS st ∧ s.size ≤ 200
        · obtain ⟨hs, hz⟩ := hs
          have hcr : codeR st = 0 := by unfold codeR; rw [if_pos hs]
          obtain ⟨t1, t2, _, _⟩ := at_once (r := z0) hs s hz (HZ.out hs) rfl
          have P := Lib.hid (fun W (H : Mux.Ends W g d z0) => put_any g d z0 ⟨st, 0, s⟩ W H 0 t1 _ rfl)
          have R := Lib.hid (fun W (H : Mux.Ends W g (putM d ⟨st, 0, s⟩) z0) => read_any g _ z0 (HO.out.put _) st W H s t2 0 hcr _ rfl)
          rw [er_0] at P R
          unfold val at P FO
          generalize putM d ⟨st, 0, s⟩ = D at P R
          generalize readR D z0 st = S at R
          have u5 : (s.toList == s.toList) = true := by simp
          clear t1 t2 hcr hz hs HO HZ
          go_wp2_with fail
          refine (FO.out _).mono ?_; rintro e w4 ⟨rfl, hb⟩
          have HE4 := Lib.hid (HE.out.below hb)
          have HB4 := Lib.hid (bcall HB3.out hb)
          clear hb HE HB3 FO
          go_wp2_with fail
          refine (P.out _ HE4.out).mono ?_; rintro e w5 ⟨rfl, hE, hg⟩
          have HE5 := Lib.hid hE
          have HB5 := Lib.hid (gb HB4.out hg HG.out)
          clear hE hg HE4 HB4 P
          go_wp2_with fail
          refine (R.out _ HE5.out).mono ?_; rintro e w6 ⟨rfl, hE, hg⟩
          have HB6 := Lib.hid (gb HB5.out hg HG.out)
          clear hE hg HE5 HB5 R
          go_wp2_with fail
          go_ret
          exact ⟨rfl, HB6.out⟩
        · obtain ⟨c, hc⟩ : ∃ c, codeM d ⟨st, 0, s⟩ = c := ⟨_, rfl⟩
          have hc1 : c = 1 ∨ c = 4 := by
            rw [← hc]
            unfold codeM
            by_cases h1 : isS st
            · rw [if_pos ⟨h1, show isAt 0 from ⟨by decide, by decide⟩⟩, if_pos (by show 200 - (0 : Int) < (s.size : Int); have h9 : ¬ s.size ≤ 200 := fun h2 => hs ⟨h1, h2⟩; omega)]
              exact .inr rfl
            · rw [if_neg (fun h => h1 h.1)]
              exact .inl rfl
          have P := Lib.hid (fun W (H : Mux.Ends W g d z0) => put_any g d z0 ⟨st, 0, s⟩ W H c hc _ rfl)
          unfold val at P FO
          generalize putM d ⟨st, 0, s⟩ = D at P
          have hev : ∃ cc, er c = .iface 63 (.int .i64 cc) := by
            rcases hc1 with rfl | rfl
            · exact ⟨1, rfl⟩
            · exact ⟨4, rfl⟩
          obtain ⟨cc, hcc⟩ := hev
          rw [hcc] at P
          clear hc hc1 hcc
          by_cases hi : isS st
          · have IN := Lib.hid (fun W => Ring.in_any st 0 3 W true (in_true hi))
            have u6 : decide ((s.size : Int) > 200) = true := decide_eq_true (by have h9 : ¬ s.size ≤ 200 := fun h2 => hs ⟨hi, h2⟩; omega)
            have u7 : decide (200 < (s.size : Int)) = true := u6
            clear hs hi HO HZ
            go_wp2_with fail
            refine (FO.out _).mono ?_; rintro e w4 ⟨rfl, hb⟩
            have HE4 := Lib.hid (HE.out.below hb)
            have HB4 := Lib.hid (bcall HB3.out hb)
            clear hb HE HB3 FO
            go_wp2_with fail
            refine (P.out _ HE4.out).mono ?_; rintro e w5 ⟨rfl, hE, hg⟩
            have HB5 := Lib.hid (gb HB4.out hg HG.out)
            clear hE hg HE4 HB4 P
            go_wp2_with fail
            refine (IN.out _).mono ?_; rintro e w6 ⟨rfl, rfl⟩
            go_wp2_with fail
            go_ret
            exact ⟨rfl, HB5.out⟩
          · have IN := Lib.hid (fun W => Ring.in_any st 0 3 W false (in_false hi))
            clear hs hi HO HZ
            go_wp2_with fail
            refine (FO.out _).mono ?_; rintro e w4 ⟨rfl, hb⟩
            have HE4 := Lib.hid (HE.out.below hb)
            have HB4 := Lib.hid (bcall HB3.out hb)
            clear hb HE HB3 FO
            go_wp2_with fail
            refine (P.out _ HE4.out).mono ?_; rintro e w5 ⟨rfl, hE, hg⟩
            have HB5 := Lib.hid (gb HB4.out hg HG.out)
            clear hE hg HE4 HB4 P
            go_wp2_with fail
            refine (IN.out _).mono ?_; rintro e w6 ⟨rfl, rfl⟩
            go_wp2_with fail
            go_ret
            exact ⟨rfl, HB5.out⟩

      · have u1 : decide ((k : Int) < (n : Int)) = false := decide_eq_false (by omega)
        clear hlt
        have HB3 := Lib.hid (gb HB2.out HW.out HG.out)
        clear HW HB2 HI2 HG2
        by_cases hs : isS st ∧ s.size ≤ 200
        · obtain ⟨hs, hz⟩ := hs
          have hcr : codeR st = 0 := by unfold codeR; rw [if_pos hs]
          obtain ⟨t1, t2, _, _⟩ := at_once (r := z0) hs s hz (HZ.out hs) rfl
          have P := Lib.hid (fun W (H : Mux.Ends W g d z0) => put_any g d z0 ⟨st, 0, s⟩ W H 0 t1 _ rfl)
          have R := Lib.hid (fun W (H : Mux.Ends W g (putM d ⟨st, 0, s⟩) z0) => read_any g _ z0 (HO.out.put _) st W H s t2 0 hcr _ rfl)
          rw [er_0] at P R
          unfold val at P FO
          generalize putM d ⟨st, 0, s⟩ = D at P R
          generalize readR D z0 st = S at R
          have u5 : (s.toList == s.toList) = true := by simp
          clear t1 t2 hcr hz hs HO HZ
          go_wp2_with fail
          refine (FO.out _).mono ?_; rintro e w4 ⟨rfl, hb⟩
          have HE4 := Lib.hid (HE.out.below hb)
          have HB4 := Lib.hid (bcall HB3.out hb)
          clear hb HE HB3 FO
          go_wp2_with fail
          refine (P.out _ HE4.out).mono ?_; rintro e w5 ⟨rfl, hE, hg⟩
          have HE5 := Lib.hid hE
          have HB5 := Lib.hid (gb HB4.out hg HG.out)
          clear hE hg HE4 HB4 P
          go_wp2_with fail
          refine (R.out _ HE5.out).mono ?_; rintro e w6 ⟨rfl, hE, hg⟩
          have HB6 := Lib.hid (gb HB5.out hg HG.out)
          clear hE hg HE5 HB5 R
          go_wp2_with fail
          go_ret
          exact ⟨rfl, HB6.out⟩
        · obtain ⟨c, hc⟩ : ∃ c, codeM d ⟨st, 0, s⟩ = c := ⟨_, rfl⟩
          have hc1 : c = 1 ∨ c = 4 := by
            rw [← hc]
            unfold codeM
            by_cases h1 : isS st
            · rw [if_pos ⟨h1, show isAt 0 from ⟨by decide, by decide⟩⟩, if_pos (by show 200 - (0 : Int) < (s.size : Int); have h9 : ¬ s.size ≤ 200 := fun h2 => hs ⟨h1, h2⟩; omega)]
              exact .inr rfl
            · rw [if_neg (fun h => h1 h.1)]
              exact .inl rfl
          have P := Lib.hid (fun W (H : Mux.Ends W g d z0) => put_any g d z0 ⟨st, 0, s⟩ W H c hc _ rfl)
          unfold val at P FO
          generalize putM d ⟨st, 0, s⟩ = D at P
          have hev : ∃ cc, er c = .iface 63 (.int .i64 cc) := by
            rcases hc1 with rfl | rfl
            · exact ⟨1, rfl⟩
            · exact ⟨4, rfl⟩
          obtain ⟨cc, hcc⟩ := hev
          rw [hcc] at P
          clear hc hc1 hcc
          by_cases hi : isS st
          · have IN := Lib.hid (fun W => Ring.in_any st 0 3 W true (in_true hi))
            have u6 : decide ((s.size : Int) > 200) = true := decide_eq_true (by have h9 : ¬ s.size ≤ 200 := fun h2 => hs ⟨hi, h2⟩; omega)
            have u7 : decide (200 < (s.size : Int)) = true := u6
            clear hs hi HO HZ
            go_wp2_with fail
            refine (FO.out _).mono ?_; rintro e w4 ⟨rfl, hb⟩
            have HE4 := Lib.hid (HE.out.below hb)
            have HB4 := Lib.hid (bcall HB3.out hb)
            clear hb HE HB3 FO
            go_wp2_with fail
            refine (P.out _ HE4.out).mono ?_; rintro e w5 ⟨rfl, hE, hg⟩
            have HB5 := Lib.hid (gb HB4.out hg HG.out)
            clear hE hg HE4 HB4 P
            go_wp2_with fail
            refine (IN.out _).mono ?_; rintro e w6 ⟨rfl, rfl⟩
            go_wp2_with fail
            go_ret
            exact ⟨rfl, HB5.out⟩
          · have IN := Lib.hid (fun W => Ring.in_any st 0 3 W false (in_false hi))
            clear hs hi HO HZ
            go_wp2_with fail
            refine (FO.out _).mono ?_; rintro e w4 ⟨rfl, hb⟩
            have HE4 := Lib.hid (HE.out.below hb)
            have HB4 := Lib.hid (bcall HB3.out hb)
            clear hb HE HB3 FO
            go_wp2_with fail
            refine (P.out _ HE4.out).mono ?_; rintro e w5 ⟨rfl, hE, hg⟩
            have HB5 := Lib.hid (gb HB4.out hg HG.out)
            clear hE hg HE4 HB4 P
            go_wp2_with fail
            refine (IN.out _).mono ?_; rintro e w6 ⟨rfl, rfl⟩
            go_wp2_with fail
            go_ret
            exact ⟨rfl, HB5.out⟩


theorem reads : Try.f4.params.toList.all (fun t => Try.prog.readableRec t && decide (t < Try.prog.types.size)) = true := by kernel_rfl

theorem contract (H : Type) (enc : TypeId × Value → H) (W : World) (base : Nat) (args : Array Value) (ds gs : List (DataW H)) (before : List MemPlace)
    (hval : ∀ (j : Nat) t v, Try.f4.params[j]? = some t → args[j]? = some v → Value.okWide Try.prog W .any base t v)
    (hW : DataW.Whole enc Try.prog Try.f4.params.toList Rows.muxApartSpec.vars false W args.toList ds gs before) :
    Calls Try.prog 4 args W fun e W' => ∃ v, e = .returned v ∧ Rows.muxApartSpec.post enc Try.prog Try.f4 false true false false W args v W' := by
  have hW' := hW
  obtain ⟨p, q, hA0, hV, rfl, hfz, hnd⟩ := hW
  have hA : DataW.TrodAll enc Try.prog W 0 (fun _ => true) true Try.f4.params.toList args.toList ds p := hA0
  have hlt := hA.lt
  rw [Try.params4] at hA hval
  obtain ⟨v0, vs0, d0, ds0, p0, q0, hargs, rfl, rfl, h0, r0⟩ := trodAll_cons hA
  obtain ⟨v1, vs1, d1, ds1, p1, q1, hvs1, rfl, rfl, h1, r1⟩ := trodAll_cons r0
  obtain ⟨v2, vs2, d2, ds2, p2, q2, hvs2, rfl, rfl, h2, r2⟩ := trodAll_cons r1
  obtain ⟨hvsn, rfl, rfl⟩ := trodAll_nil r2
  simp only [hvsn, hvs2, hvs1] at hargs
  obtain rfl : args = #[v0, v1, v2] := by cases args; simp_all
  obtain ⟨rfl, rfl⟩ := trodVars_none hV
  clear hA0
  obtain ⟨p0a, cap0, l0, rfl, i0, f0, e0⟩ := Go.Proofs.Ytcleanjacijfoaa.Mux.open_frames (hval 0 37 v0 rfl rfl) h0 (fun x hx => hlt x (by simp [hx]))
  obtain ⟨a1, rfl, rfl, rfl, w1⟩ := open_int Try.underlying3 (hval 1 3 v1 rfl rfl) h1
  have b1 := bounds_int w1
  obtain ⟨s2, rfl, rfl, rfl, z2⟩ := Go.ChangeMaps.open_string Try.underlying9 (hval 2 9 v2 rfl rfl) h2
  exact law_post 4 laid reads rfl Try.underlying4 rfl hW' ⟨rfl, rfl, rfl⟩ (law_any p0a cap0 l0 a1 s2 W i0)

set_option maxRecDepth 100000 in
theorem lifted (os : Os) (started : os.Started) (H : Type) (enc : TypeId × Value → H) :
    ReturnsInHanded {} Try.checked os 4 .any (Rows.muxApartSpec.pre6 enc Try.prog Try.f4 Rows.muxApartRow.domain false) (Rows.muxApartSpec.post enc Try.prog Try.f4 false true false false) := by
  refine returnsInHanded_of_change (C := Try.checked) own started (by kernel_rfl) Try.func4
    (ChangeSpec.witness6 (enc := enc) (C := Try.checked) false ⟨#[], #[.slice none 0 0, .int .i64 0, .string .empty], []⟩ 8 (by kernel_rfl) (by kernel_rfl) (by kernel_rfl) (by kernel_rfl)) ?_
  intro W base args ds gs before hval hW _ _
  exact contract H enc W base args ds gs before hval hW

theorem proved : Rows.MuxApartSaid :=
  OpenClaim.holds_of_wide 4 Try.f4 rfl rfl rfl rfl rfl rfl rfl ⟨rfl, rfl, rfl, rfl, rfl⟩ rfl rfl rfl rfl rfl (by kernel_rfl) Try.func4 (by kernel_rfl)
    (of_decide_eq_true (by kernel_rfl)) (by unfold Func.isWrapper; first | (rw [if_pos (by decide +kernel)]; kernel_rfl) | (rw [if_neg (by decide +kernel)]; exact ⟨rfl, rfl⟩))
    (fun os started H enc _ => lifted os started H enc)
end Go.Proofs.Ytcleanjacijfoaa.MuxApartL
