/- RingHold: if no station has more than its limit, all frames are sent station by station: for every input. No condition. -/
import Derived.Test.YtckfobkkjiiheaaRingFact
import Derived.BigQuiet
namespace Go.Proofs.Ytckfobkkjiiheaa.RingHoldL
open Go.ChangeShapes Go.WideShapes Go.ChangeAt Go.RowKit Go.Proofs.Ytckfobkkjiiheaa.Kit Go.Proofs.Ytckfobkkjiiheaa.App Go.Proofs.Ytckfobkkjiiheaa.Err Go.Proofs.Ytckfobkkjiiheaa.RingMath Go.Proofs.Ytckfobkkjiiheaa.Ring
set_option linter.unusedVariables false
set_option maxRecDepth 20000
set_option maxHeartbeats 4000000
abbrev Law (p : Option Addr) (cap n : Nat) (x : Int) (w : World) : Prop := Calls Try.prog 5 #[.slice p n cap, .int .i64 x] w fun e w' => e = .returned (.bool true) ∧ Below w.heap.size w w'
theorem law_bad (p : Option Addr) (cap n : Nat) (l : List Int) (x : Int) (w : World) (hn : n = l.length) (hi : Ints w p cap l) (c : Int) (hc : codeH l x = c) (h0 : c ≠ 0) : Law p cap n x w := by
  have hlen := hi.len_le
  rw [← hn] at hlen
  have RB := Lib.hid (fun W (hW : Below w.heap.size w W) => run_bad p cap n l x W hn (hi.below hW) c hc h0)
  have GB := Lib.hid (fun W (hW : Below w.heap.size w W) => gap_bad p cap n l x W hn (hi.below hW) c hc h0)
  rw [er_ne h0] at RB GB
  clear hn hi hc h0
  have FA := Lib.hid (Ring.fact_any w)
  unfold Law
  go_enter Try.func5, Try.ntmps5
  go_wp2_with fail
  refine FA.out.mono ?_; rintro e w1 ⟨rfl, hb1⟩
  have HB1 := Lib.hid hb1
  clear FA hb1
  go_wp2_with fail
  refine (RB.out w1 HB1.out).mono ?_; rintro e w2 ⟨rfl, hb⟩
  have HB2 := Lib.hid (bcall HB1.out hb)
  clear RB HB1 hb
  go_wp2_with fail
  refine (GB.out w2 HB2.out).mono ?_; rintro e w3 ⟨rfl, hb⟩
  have HB3 := Lib.hid (bcall HB2.out hb)
  clear GB HB2 hb
  go_wp2_with fail
  go_ret
  exact ⟨by first | rfl | simp, HB3.out⟩
theorem law_good (p : Option Addr) (cap n : Nat) (l : List Int) (h : Nat) (w : World) (hn : n = l.length) (hi : Ints w p cap l) (g : Ring.Good l h) : Law p cap n (h : Int) w := by
  have hlen := hi.len_le
  rw [← hn] at hlen
  have RG := Lib.hid (fun W (hW : Below w.heap.size w W) => run_good p cap n l h W hn (hi.below hW) g)
  have GG := Lib.hid (fun W (hW : Below w.heap.size w W) => gap_good p cap n l h W hn (hi.below hW) g)
  have hn8 : n ≤ 8 := by rw [hn]; exact g.up
  have hn1 : 1 ≤ n := by rw [hn]; exact g.lo
  have hh1 := g.h1
  have hh20 := g.h20
  have HI := Lib.hid hi
  have HN := Lib.hid hn
  have HG := Lib.hid g
  obtain ⟨bw, ow, hpw, hbw, hcw⟩ := hi.2.2.2 (by omega)
  subst hpw
  have CW := Lib.hid (fun W (hW : Below w.heap.size w W) j (hj : j < n) => (show W.cell? ⟨bw, ow + j, none⟩ = some (.int .i64 ((fn l j : Nat) : Int)) ∧ fn l j ≤ 20 from by
    have h1 := g.fn (k := j) (by omega)
    refine ⟨?_, h1.2⟩
    rw [hW.cell (p := ⟨bw, ow + j, none⟩) hbw, hcw j (by omega), h1.1]))
  clear hn hi g hbw hcw
  have FA := Lib.hid (Ring.fact_any w)
  unfold Law
  go_enter Try.func5, Try.ntmps5
  go_wp2_with fail
  refine FA.out.mono ?_; rintro e w1 ⟨rfl, hb1⟩
  have HB1 := Lib.hid hb1
  clear FA hb1
  go_wp2_with fail
  refine (RG.out w1 HB1.out).mono ?_; rintro e w2 ⟨u, rfl, ho, hb⟩
  have HB2 := Lib.hid (bcall HB1.out hb)
  obtain ⟨pu, cu, rfl, iu⟩ := ho.form
  rw [nat_len]
  have IU2 := Lib.hid iu
  clear RG HB1 ho iu hb
  go_wp2_with fail
  refine (GG.out w2 HB2.out).mono ?_; rintro e w3 ⟨rfl, hb⟩
  have HB3 := Lib.hid (bcall HB2.out hb)
  have IU := Lib.hid (IU2.out.below hb)
  clear GG HB2 IU2 hb
  go_wp2_with fail
  go_loopw [10, 11] (fun vv iv wr => ∃ i : Nat, i ≤ n ∧ iv = .int .i64 i ∧ (∀ k, k < i → fn l k ≤ h) ∧ Hid (OwnI wr w3.heap.size vv (nat (flat (fn l) i))) ∧ Hid (Below w3.heap.size w3 wr)) (fun _ i _ => n - (intOf i).toNat)
  case atStart => exact ⟨0, Nat.zero_le _, rfl, fun k hk => absurd hk (Nat.not_lt_zero _), Lib.hid (OwnI.nil _ _), Lib.hid (brefl _)⟩
  case round =>
    obtain ⟨i, hin, rfl, hsm, HO, HR⟩ := hrel
    by_cases hlt : i < n
    · have v0 : decide ((i : Int) < (n : Int)) = true := decide_eq_true (by omega)
      have v1 : (i : Int) < (n : Int) := by omega
      obtain ⟨ci, h20⟩ := CW.out wr (bcall HB3.out HR.out) i hlt
      have HSM := Lib.hid hsm
      have HCI := Lib.hid (fun W (hW : Below w3.heap.size w3 W) => (CW.out W (bcall HB3.out hW) i hlt).1)
      have HFL := Lib.hid (show flat (fn l) (i + 1) = flat (fn l) i ++ List.replicate (fn l i) i from rfl)
      have H5 := Lib.hid (show (flat (fn l) i).length ≤ 160 from by
        rw [flat_len]
        have := sm_le (fn l) 20 i fun k hk => (CW.out wr (bcall HB3.out HR.out) k (by omega)).2
        omega)
      obtain ⟨y, hy⟩ : ∃ y, fn l i = y := ⟨_, rfl⟩
      rw [hy] at ci h20 HCI HFL
      have HY := Lib.hid hy
      clear hy hsm
      by_cases hgt : h < y
      · have t1 : decide ((y : Int) > (h : Int)) = true := decide_eq_true (by omega)
        have t1n : decide (h < y) = true := decide_eq_true hgt
        have HBF := Lib.hid (bcall HB3.out HR.out)
        clear hgt
        go_wp2_with fail
        go_ret
        exact ⟨by first | rfl | simp, HBF.out⟩
      · have t1 : decide ((y : Int) > (h : Int)) = false := decide_eq_false (by omega)
        have t1n : decide (h < y) = false := decide_eq_false hgt
        go_wp2_with fail
        clear ci
        go_loopw [10, 12] (fun vv kv wr => ∃ k : Nat, k ≤ y ∧ kv = .int .i64 k ∧ Hid (OwnI wr w3.heap.size vv (nat (flat (fn l) i ++ List.replicate k i))) ∧ Hid (Below w3.heap.size w3 wr)) (fun _ k _ => y - (intOf k).toNat)
        case atStart => exact ⟨0, Nat.zero_le _, rfl, Lib.hid (by rw [List.replicate_zero, List.append_nil]; exact HO.out), HR⟩
        case round =>
          obtain ⟨k, hk, rfl, HOK, HRK⟩ := hrel
          clear HO HR
          have ci := HCI.out wr HRK.out
          by_cases hlk : k < y
          · have v2 : decide ((k : Int) < (y : Int)) = true := decide_eq_true (by omega)
            have HE := Lib.hid (show nat (flat (fn l) i ++ List.replicate (k + 1) i) = nat (flat (fn l) i ++ List.replicate k i) ++ [(i : Int)] from by
              rw [List.replicate_succ', ← List.append_assoc, nat_app]; rfl)
            have HLK := Lib.hid (show (nat (flat (fn l) i ++ List.replicate k i)).length ≤ 200 from by
              rw [nat_len, List.length_append, List.length_replicate]; have := H5.out; omega)
            obtain ⟨pk, qk, rfl, hik⟩ := HOK.out.form
            obtain ⟨L0, hL0⟩ : ∃ L0, nat (flat (fn l) i ++ List.replicate k i) = L0 := ⟨_, rfl⟩
            rw [hL0] at HE HLK HOK
            rw [hL0]
            obtain ⟨mk, hmk⟩ : ∃ mk, L0.length = mk := ⟨_, rfl⟩
            rw [hmk] at HOK HLK ⊢
            have HMK := Lib.hid hmk
            have hm200 := HLK.out
            have HW1 := Lib.hid (show (Lit.int .i64 (i : Int)).wf = true by simp [Lit.wf, IntKind.min, IntKind.max, IntKind.signed, IntKind.bits]; omega)
            clear hik hmk hL0
            go_wp2_with (at_builtin
                         refine wp_app rfl (.tmp 61) (.tmp 63) rfl w3.heap.size (.slice pk mk qk) L0 (some ⟨wr.heap.size, 0, none⟩) 1 1 [(i : Int)] rfl (HOK.out.alloc _) rfl rfl (Ints.one wr _ HW1.out) (by rw [HMK.out]; simp; omega) (by have := HRK.out.size; simp; omega) ?_
                         intro v9 w9 ho9 hg9 hat9
                         have HO9 := Lib.hid ho9
                         have HB9 := Lib.hid (show Below w3.heap.size w3 w9 from (HRK.out.trans ((balloc (brefl wr) (.cells #[.int .i64 (i : Int)] 3)).mono HRK.out.size)).grown hg9 (by have := HRK.out.size; simp; omega) (fun r e => (HOK.out.lt r e).1))
                         clear ho9 hg9 hat9)
            go_roundw
            case rel => exact ⟨k + 1, by omega, by first | rfl | go_num, Lib.hid (by rw [HE.out]; exact HO9.out), HB9⟩
            case measure => simp [intOf]; omega
          · obtain rfl : k = y := by omega
            have v2 : decide ((k : Int) < (k : Int)) = false := decide_eq_false (by omega)
            have HO9 := Lib.hid (show OwnI wr w3.heap.size _ (nat (flat (fn l) (i + 1))) from by rw [HFL.out]; exact HOK.out)
            go_wp2_with fail
            go_roundw
            case rel => exact ⟨i + 1, by omega, by first | rfl | go_num, fun j hj => (by
              by_cases e : j = i
              · subst e; rw [HY.out]; omega
              · exact HSM.out j (by omega)), HO9, HRK⟩
            case measure => simp [intOf]; omega
    · obtain rfl : i = n := by omega
      have v0 : decide ((i : Int) < (i : Int)) = false := decide_eq_false (by omega)
      have hT : ∀ k, k < i → fn l k ≤ 20 * h := fun k hk => HG.out.top k (by rw [← HN.out]; exact hk)
      have he : ord l h = flat (fn l) i := by unfold ord; rw [← HN.out]; exact order_flat hT hsm
      have hz : RingMath.gap (ord l h) = 0 := by
        refine gap_zero HG.out.h1 (T := 20) hT hsm ?_
        have := gap_is (ord l h)
        unfold ord at this ⊢
        rwa [← HN.out] at this ⊢
      rw [hz]
      obtain ⟨pv, cv, rfl, iv⟩ := HO.out.form
      rw [nat_len]
      have SM := Lib.hid (ints_any pu pv cu cv _ _ (nat (flat (fn l) i)) (nat (flat (fn l) i)) wr rfl rfl (by have := IU.out.below HR.out; rwa [he] at this) iv true (by simp))
      rw [nat_len] at SM
      rw [he]
      generalize (flat (fn l) i).length = k0 at SM ⊢
      have HBF := Lib.hid (bcall HB3.out HR.out)
      clear he hz hT iv HO
      go_wp2_with fail
      refine SM.out.mono ?_; rintro e w4 ⟨rfl, hb⟩
      have HB4 := Lib.hid (bcall HBF.out hb)
      clear SM hb HBF
      go_wp2_with fail
      go_ret
      exact ⟨by first | rfl | simp, HB4.out⟩
theorem law_any (p : Option Addr) (cap n : Nat) (l : List Int) (x : Int) (w : World) (hn : n = l.length) (hi : Ints w p cap l) : Law p cap n x w := by
  by_cases h : codeH l x = 0
  · obtain ⟨k, rfl, g⟩ := codeH_zero h
    exact law_good p cap n l k w hn hi g
  · exact law_bad p cap n l x w hn hi _ rfl h

theorem reads : Try.f5.params.toList.all (fun t => Try.prog.readableRec t && decide (t < Try.prog.types.size)) = true := by kernel_rfl

theorem contract (H : Type) (enc : TypeId × Value → H) (W : World) (base : Nat) (args : Array Value) (ds gs : List (DataW H)) (before : List MemPlace)
    (hval : ∀ (j : Nat) t v, Try.f5.params[j]? = some t → args[j]? = some v → Value.okWide Try.prog W .any base t v)
    (hW : DataW.Whole enc Try.prog Try.f5.params.toList Rows.ringHoldSpec.vars false W args.toList ds gs before) :
    Calls Try.prog 5 args W fun e W' => ∃ v, e = .returned v ∧ Rows.ringHoldSpec.post enc Try.prog Try.f5 false true false false W args v W' := by
  have hW' := hW
  obtain ⟨p, q, hA0, hV, rfl, hfz, hnd⟩ := hW
  have hA : DataW.TrodAll enc Try.prog W 0 (fun _ => true) true Try.f5.params.toList args.toList ds p := hA0
  have hlt := hA.lt
  rw [Try.params5] at hA hval
  obtain ⟨v0, vs0, d0, ds0, p0, q0, hargs, rfl, rfl, h0, r0⟩ := trodAll_cons hA
  obtain ⟨v1, vs1, d1, ds1, p1, q1, hvs1, rfl, rfl, h1, r1⟩ := trodAll_cons r0
  obtain ⟨hvsn, rfl, rfl⟩ := trodAll_nil r1
  simp only [hvsn, hvs1] at hargs
  obtain rfl : args = #[v0, v1] := by cases args; simp_all
  obtain ⟨rfl, rfl⟩ := trodVars_none hV
  clear hA0
  obtain ⟨p0a, cap0, l0, rfl, i0⟩ := open_intsl Try.underlying22 Try.underlying3 (by kernel_rfl) (hval 0 22 v0 rfl rfl) h0 (fun x hx => hlt x (by simp [hx]))
  obtain ⟨a1, rfl, rfl, rfl, w1⟩ := open_int Try.underlying3 (hval 1 3 v1 rfl rfl) h1
  have b1 := bounds_int w1
  exact law_post 4 laid reads rfl Try.underlying4 rfl hW' ⟨rfl, rfl, rfl⟩ (law_any p0a _ _ l0 a1 W rfl i0)

set_option maxRecDepth 100000 in
theorem lifted (os : Os) (started : os.Started) (H : Type) (enc : TypeId × Value → H) :
    ReturnsInHanded {} Try.checked os 5 .any (Rows.ringHoldSpec.pre6 enc Try.prog Try.f5 Rows.ringHoldRow.domain false) (Rows.ringHoldSpec.post enc Try.prog Try.f5 false true false false) := by
  refine returnsInHanded_of_change (C := Try.checked) own started (by kernel_rfl) Try.func5
    (ChangeSpec.witness6 (enc := enc) (C := Try.checked) false ⟨#[], #[.slice none 0 0, .int .i64 0], []⟩ 8 (by kernel_rfl) (by kernel_rfl) (by kernel_rfl) (by kernel_rfl)) ?_
  intro W base args ds gs before hval hW _ _
  exact contract H enc W base args ds gs before hval hW

theorem proved : Rows.RingHoldSaid :=
  OpenClaim.holds_of_wide 5 Try.f5 rfl rfl rfl rfl rfl rfl rfl ⟨rfl, rfl, rfl, rfl, rfl⟩ rfl rfl rfl rfl rfl (by kernel_rfl) Try.func5 (by kernel_rfl)
    (of_decide_eq_true (by kernel_rfl)) (by unfold Func.isWrapper; first | (rw [if_pos (by decide +kernel)]; kernel_rfl) | (rw [if_neg (by decide +kernel)]; exact ⟨rfl, rfl⟩))
    (fun os started H enc _ => lifted os started H enc)
end Go.Proofs.Ytckfobkkjiiheaa.RingHoldL
