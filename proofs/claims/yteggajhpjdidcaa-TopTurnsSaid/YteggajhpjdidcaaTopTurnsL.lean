/- TopTurns: with backoff and with a token ring, a single station sends at once and no two stations send simultaneously: for every input. No condition. -/
import Derived.Test.YteggajhpjdidcaaRetryOps
import Derived.Test.YteggajhpjdidcaaRing2
import Derived.Test.YteggajhpjdidcaaRiseAll
import Derived.Test.YteggajhpjdidcaaSame
namespace Go.Proofs.Yteggajhpjdidcaa.TopTurnsL
open Go.ChangeShapes Go.WideShapes Go.ChangeAt Go.RowKit Go.Proofs.Yteggajhpjdidcaa.Kit Go.Proofs.Yteggajhpjdidcaa.App Go.Proofs.Yteggajhpjdidcaa.Err Go.Proofs.Yteggajhpjdidcaa.RetryMath
set_option linter.unusedVariables false
set_option maxRecDepth 20000
set_option maxHeartbeats 4000000

abbrev Law (x : Int) (p : Option Addr) (cap n : Nat) (w : World) : Prop := Calls Try.prog 7 #[.int .i64 x, .slice p n cap] w fun e w' => e = .returned (.bool true) ∧ Below w.heap.size w w'
theorem one_good : Retry.Good 1 [] := ⟨by decide, by decide, by decide, fun k hk => absurd hk (Nat.not_lt_zero _)⟩
theorem one_len : (Retry.sent 1 []).length = 1 := by rw [Retry.sent_one]; rfl
theorem one_who : Retry.who 1 [] = [0] := by unfold Retry.who; rw [Retry.sent_one]; rfl
theorem one_slots : Retry.slots 1 [] = [0] := by unfold Retry.slots; rw [Retry.sent_one]; rfl
/-- k times one, then nought. -/
def ones (k n : Nat) : List Int := List.replicate k 1 ++ List.replicate (n - k) 0
theorem ones_zero (n : Nat) : List.replicate n (0 : Int) = ones 0 n := by simp [ones]
theorem ones_len {k n : Nat} (h : k ≤ n) : (ones k n).length = n := by unfold ones; rw [List.length_append, List.length_replicate, List.length_replicate]; omega
theorem ones_set {k n : Nat} (h : k < n) : (ones k n).set k 1 = ones (k + 1) n := by
  unfold ones
  obtain ⟨d, hd⟩ : ∃ d, n - k = d + 1 := ⟨n - k - 1, by omega⟩
  rw [List.set_append, if_neg (by simp), List.length_replicate, Nat.sub_self, hd, List.replicate_succ (n := d), List.set_cons_zero, show n - (k + 1) = d by omega, List.replicate_succ' (n := k), List.append_assoc]
  rfl
theorem ones_all (n : Nat) : ones n n = List.replicate n 1 := by simp [ones]
theorem ones_good {n : Nat} (h1 : 1 ≤ n) (h5 : n ≤ 5) : Ring.Good (List.replicate n 1) 1 := ⟨by rw [List.length_replicate]; exact h1, by rw [List.length_replicate]; omega, fun k hk => by
  rw [List.length_replicate] at hk
  rw [List.getElem?_replicate, if_pos hk]
  exact ⟨by decide, by decide⟩, by decide, by decide⟩
theorem ones_ord {n : Nat} (h1 : 1 ≤ n) (h5 : n ≤ 5) : Ring.ord (List.replicate n 1) 1 = List.range n := by
  obtain rfl | rfl | rfl | rfl | rfl : n = 1 ∨ n = 2 ∨ n = 3 ∨ n = 4 ∨ n = 5 := by omega
  all_goals decide +kernel
theorem range_get {n i : Nat} (h : i < n) : (Ring.nat (List.range n))[i]?.getD 0 = (i : Int) := Ring.nat_get (List.getElem?_range h)
theorem range_len {n : Nat} : (Ring.nat (List.range n)).length = n := by rw [Ring.nat_len, List.length_range]
theorem range_le : ∀ n : Nat, (Ring.nat (List.range n)).Pairwise (· ≤ ·) := fun n => by
  unfold Ring.nat
  rw [List.pairwise_map]
  exact List.pairwise_lt_range.imp fun h => by omega
theorem who_srt {n : Nat} {l : List Int} (h : (Retry.sent n l).length = n) : Rising.srt (Retry.who n l) = Ring.nat (List.range n) := by
  refine (Rising.srt_only (range_le n) ?_).symm
  exact (Retry.who_perm h).symm
theorem law_bad (x : Int) (p : Option Addr) (cap n : Nat) (l : List Int) (w : World) (hn : n = l.length) (hi : Ints w p cap l) (c : Int) (hc : Retry.code x l = c) (h0 : c ≠ 0) : Law x p cap n w := by
  have hlen := hi.len_le
  rw [← hn] at hlen
  have RB := Lib.hid (fun W (hW : Below w.heap.size w W) => Retry.run_bad x p cap n l W hn (hi.below hW) c hc h0)
  rw [Retry.er_ne h0] at RB
  have R1 := Lib.hid (fun W => Retry.run_good 1 none 0 0 [] W rfl (ints_none W none 0 [] (by unfold maxLen; omega) rfl) one_good 1 one_len)
  rw [one_who, one_slots, show ((1 : Nat) : Int) = 1 from rfl] at R1
  have A0 := Lib.hid (fun W => lit_ints W [0] (by decide) (by decide))
  clear hn hi hc h0
  unfold Law
  go_enter Try.func7, Try.ntmps7
  go_wp2_with fail
  refine (R1.out w).mono ?_; rintro e w1 ⟨⟨r, cr, r2, cr2, rfl, ir, ir2⟩, hb⟩
  have HB1 := Lib.hid hb
  have IR := Lib.hid ir
  have IR2 := Lib.hid ir2
  clear R1 hb ir ir2
  go_wp2_with fail
  refine (ints_any r _ cr 1 1 1 [0] [0] _ rfl rfl (IR.out.below (balloc (brefl w1) _)) (A0.out w1) true (by decide)).mono ?_; rintro e w2 ⟨rfl, hb⟩
  have HB2 := Lib.hid (bcall (balloc HB1.out _) hb)
  have HI2 := Lib.hid ((IR2.out.below (balloc (brefl w1) _)).below hb)
  clear HB1 IR IR2 hb
  go_wp2_with fail
  refine (ints_any r2 _ cr2 1 1 1 [0] [0] _ rfl rfl (HI2.out.below (balloc (brefl w2) _)) (A0.out w2) true (by decide)).mono ?_; rintro e w3 ⟨rfl, hb⟩
  have HB3 := Lib.hid (bcall (balloc HB2.out _) hb)
  clear HB2 HI2 A0 hb
  go_wp2_with fail
  refine (RB.out w3 HB3.out).mono ?_; rintro e w4 ⟨rfl, hb⟩
  have HB4 := Lib.hid (bcall HB3.out hb)
  clear RB HB3 hb
  go_wp2_with fail
  go_ret
  exact ⟨by first | rfl | simp, HB4.out⟩
theorem law_good (x : Nat) (p : Option Addr) (cap n : Nat) (l : List Int) (w : World) (hn : n = l.length) (hi : Ints w p cap l) (g : Retry.Good x l) : Law (x : Int) p cap n w := by
  have hlen := hi.len_le
  rw [← hn] at hlen
  have hx1 := g.lo
  have hx5 := g.up
  have hs1 := Retry.sent_len (n := x) (l := l)
  obtain ⟨m, hm⟩ : ∃ m, (Retry.sent x l).length = m := ⟨_, rfl⟩
  have RG := Lib.hid (fun W (hW : Below w.heap.size w W) => Retry.run_good x p cap n l W hn (hi.below hW) g m hm)
  have HLW := Lib.hid (show m = (Retry.who x l).length by rw [Retry.who_len, hm])
  have HSR := Lib.hid (show m = x → Rising.srt (Retry.who x l) = Ring.nat (List.range x) from fun e => who_srt (by rw [hm, e]))
  have RR := Lib.hid (fun g W (hW : Ints W (some ⟨g, 0, none⟩) x (List.replicate x 1)) => Ring.run_good (some ⟨g, 0, none⟩) x x (List.replicate x 1) 1 W (List.length_replicate ..).symm hW (ones_good hx1 hx5))
  rw [ones_ord hx1 hx5, show ((1 : Nat) : Int) = 1 from rfl] at RR
  rw [hm] at hs1
  generalize Retry.who x l = A at RG HLW HSR
  generalize Retry.slots x l = B at RG
  have R1 := Lib.hid (fun W => Retry.run_good 1 none 0 0 [] W rfl (ints_none W none 0 [] (by unfold maxLen; omega) rfl) one_good 1 one_len)
  rw [one_who, one_slots, show ((1 : Nat) : Int) = 1 from rfl] at R1
  have A0 := Lib.hid (fun W => lit_ints W [0] (by decide) (by decide))
  clear hn hi g hm
  unfold Law
  go_enter Try.func7, Try.ntmps7
  go_wp2_with fail
  refine (R1.out w).mono ?_; rintro e w1 ⟨⟨r, cr, r2, cr2, rfl, ir, ir2⟩, hb⟩
  have HB1 := Lib.hid hb
  have IR := Lib.hid ir
  have IR2 := Lib.hid ir2
  clear R1 hb ir ir2
  go_wp2_with fail
  refine (ints_any r _ cr 1 1 1 [0] [0] _ rfl rfl (IR.out.below (balloc (brefl w1) _)) (A0.out w1) true (by decide)).mono ?_; rintro e w2 ⟨rfl, hb⟩
  have HB2 := Lib.hid (bcall (balloc HB1.out _) hb)
  have HI2 := Lib.hid ((IR2.out.below (balloc (brefl w1) _)).below hb)
  clear HB1 IR IR2 hb
  go_wp2_with fail
  refine (ints_any r2 _ cr2 1 1 1 [0] [0] _ rfl rfl (HI2.out.below (balloc (brefl w2) _)) (A0.out w2) true (by decide)).mono ?_; rintro e w3 ⟨rfl, hb⟩
  have HB3 := Lib.hid (bcall (balloc HB2.out _) hb)
  clear HB2 HI2 A0 hb
  go_wp2_with fail
  refine (RG.out w3 HB3.out).mono ?_; rintro e w4 ⟨⟨s, cs, s2, cs2, rfl, is, is2⟩, hb⟩
  have HB4 := Lib.hid (bcall HB3.out hb)
  have IS := Lib.hid is
  clear RG HB3 hb is is2
  obtain ⟨w5, mk, ho5, hg5⟩ := made_ints w4 x (by omega)
  rw [ones_zero] at ho5
  have HO5 := Lib.hid ho5
  have HB5 := Lib.hid (show Below w4.heap.size w4 w5 from ⟨hg5.os, hg5.tape, hg5.output, hg5.size, fun k hk => hg5.block k hk (by simp)⟩)
  obtain ⟨g, hg⟩ : ∃ g, w4.heap.size = g := ⟨_, rfl⟩
  rw [hg] at mk HO5 HB5
  have HGS := Lib.hid hg
  clear ho5 hg5 hg
  go_wp2_with fail
  go_loopw [11] (fun iv wr => ∃ k : Nat, k ≤ x ∧ iv = .int .i64 (k : Int) ∧ Hid (OwnI wr g (.slice (some ⟨g, 0, none⟩) x x) (ones k x)) ∧ Hid (Below g w4 wr)) (fun iv _ => x - (intOf iv).toNat)
  case atStart => exact ⟨0, Nat.zero_le _, rfl, HO5, HB5⟩
  case round =>
    clear HO5 HB5 mk
    obtain ⟨k, hk, rfl, HO, HW⟩ := hrel
    by_cases hlt : k < x
    · have v0 : decide ((k : Int) < (x : Int)) = true := decide_eq_true (by omega)
      have v1 : (k : Int) < (x : Int) := by omega
      have c0 := own_cell HO.out k (by rw [ones_len hk]; exact hlt)
      have f0 := own_fz HO.out k
      have HO2 := Lib.hid (own_set HO.out k 1 (by decide))
      rw [ones_set hlt] at HO2
      have HW2 := Lib.hid (below_set HW.out g k (.int .i64 1) (Nat.le_refl _))
      generalize (ones k x)[k]?.getD 0 = z at c0
      go_wp2_with fail
      go_roundw
      case rel => exact ⟨k + 1, by omega, by first | rfl | go_num, HO2, HW2⟩
      case measure => simp [intOf]; omega
    · obtain rfl : k = x := by omega
      have v0 : decide ((k : Int) < (k : Int)) = false := decide_eq_false (by omega)
      have HO3 := Lib.hid (show Ints wr (some ⟨g, 0, none⟩) k (List.replicate k 1) from by
        have h := HO.out
        rw [ones_all] at h
        obtain ⟨p9, c9, e9, i9⟩ := h.form
        injection e9 with e91 e92 e93
        subst e91; subst e93
        exact i9)
      have HW4 := Lib.hid (show Below w4.heap.size w4 wr from by rw [HGS.out]; exact HW.out)
      clear HO HW HGS
      go_wp2_with fail
      refine (RR.out g _ HO3.out).mono ?_; rintro e w6 ⟨v, rfl, hv, hb⟩
      have HB6 := Lib.hid (bcall HW4.out hb)
      obtain ⟨pv, cv, e9, i9⟩ := hv.form
      rw [range_len] at e9
      subst e9
      have IV := Lib.hid i9
      have HCV := Lib.hid (show ∃ b o, pv = some ⟨b, o, none⟩ ∧ ∀ i, i < k → w6.cell? ⟨b, o + i, none⟩ = some (.int .i64 (i : Int)) from by
        obtain ⟨b, o, e, _, hc⟩ := i9.2.2.2 (by rw [range_len]; omega)
        refine ⟨b, o, e, fun i hi => ?_⟩
        have := hc i (by rw [range_len]; exact hi)
        rwa [range_get hi] at this)
      clear RR HO3 HW4 hv hb i9
      have t1 : ((k : Int) == (k : Int)) = true := by simp
      have t2 : ((m : Int) == (m : Int)) = true := by simp
      go_wp2_with fail
      go_loopw [13] (fun iv wr => ∃ i : Nat, i ≤ k ∧ iv = .int .i64 (i : Int) ∧ wr = w6) (fun iv _ => k - (intOf iv).toNat)
      case atStart => exact ⟨0, Nat.zero_le _, rfl, rfl⟩
      case round =>
        obtain ⟨i, hi, rfl, rfl⟩ := hrel
        by_cases hlt2 : i < k
        · have v3 : decide ((i : Int) < (k : Int)) = true := decide_eq_true (by omega)
          have v4 : (i : Int) < (k : Int) := by omega
          have t3 : ((i : Int) == (i : Int)) = true := by simp
          obtain ⟨b, o, rfl, hc⟩ := HCV.out
          have c1 := hc i hlt2
          clear hc
          go_wp2_with fail
          go_roundw
          case rel => exact ⟨i + 1, by omega, by first | rfl | go_num, by first | trivial | rfl⟩
          case measure => simp [intOf]; omega
        · obtain rfl : i = k := by omega
          have v3 : decide ((i : Int) < (i : Int)) = false := decide_eq_false (by omega)
          clear HCV
          by_cases hmx : m < i
          · have t4 : decide ((m : Int) < (i : Int)) = true := decide_eq_true (by omega)
            have t4n : decide (m < i) = true := decide_eq_true hmx
            go_wp2_with fail
            go_ret
            exact ⟨by first | rfl | simp, bcall HB4.out HB6.out⟩
          · obtain rfl : m = i := by omega
            have t4 : decide ((m : Int) < (m : Int)) = false := decide_eq_false (by omega)
            have RS := Lib.hid (Rising.rising_srt s cs m A wr HLW.out (IS.out.below HB6.out) (by omega) (by omega))
            rw [HSR.out rfl] at RS
            go_wp2_with fail
            refine RS.out.mono ?_; rintro e w7 ⟨⟨q, cq, rfl, hq⟩, hb⟩
            have HB7 := Lib.hid (bcall (bcall HB4.out HB6.out) hb)
            have SM := Lib.hid (show Calls Try.prog 12 #[.slice q m cq, .slice pv m cv] w7 fun e w' => e = .returned (.bool true) ∧ Below w7.heap.size w7 w' from by
              obtain ⟨p9, c9, e9, i9⟩ := hq.form
              rw [range_len] at e9
              injection e9 with e91 e92 e93
              subst e91; subst e93
              exact ints_any q pv cq cv m m _ _ w7 range_len.symm range_len.symm i9 (IV.out.below hb) true (by simp))
            clear RS hq hb HB4 HB6
            go_wp2_with fail
            refine SM.out.mono ?_; rintro e w8 ⟨rfl, hb⟩
            have HB8 := Lib.hid (bcall HB7.out hb)
            clear SM HB7 hb
            go_wp2_with fail
            go_ret
            exact ⟨by first | rfl | simp, HB8.out⟩
theorem law_any (x : Int) (p : Option Addr) (cap n : Nat) (l : List Int) (w : World) (hn : n = l.length) (hi : Ints w p cap l) : Law x p cap n w := by
  by_cases hc : Retry.code x l = 0
  · obtain ⟨m, rfl, g⟩ := Retry.code_zero hc
    exact law_good m p cap n l w hn hi g
  · exact law_bad x p cap n l w hn hi _ rfl hc

theorem reads : Try.f7.params.toList.all (fun t => Try.prog.readableRec t && decide (t < Try.prog.types.size)) = true := by kernel_rfl

theorem contract (H : Type) (enc : TypeId × Value → H) (W : World) (base : Nat) (args : Array Value) (ds gs : List (DataW H)) (before : List MemPlace)
    (hval : ∀ (j : Nat) t v, Try.f7.params[j]? = some t → args[j]? = some v → Value.okWide Try.prog W .any base t v)
    (hW : DataW.Whole enc Try.prog Try.f7.params.toList Rows.topTurnsSpec.vars false W args.toList ds gs before) :
    Calls Try.prog 7 args W fun e W' => ∃ v, e = .returned v ∧ Rows.topTurnsSpec.post enc Try.prog Try.f7 false true false false W args v W' := by
  have hW' := hW
  obtain ⟨p, q, hA0, hV, rfl, hfz, hnd⟩ := hW
  have hA : DataW.TrodAll enc Try.prog W 0 (fun _ => true) true Try.f7.params.toList args.toList ds p := hA0
  have hlt := hA.lt
  rw [Try.params7] at hA hval
  obtain ⟨v0, vs0, d0, ds0, p0, q0, hargs, rfl, rfl, h0, r0⟩ := trodAll_cons hA
  obtain ⟨v1, vs1, d1, ds1, p1, q1, hvs1, rfl, rfl, h1, r1⟩ := trodAll_cons r0
  obtain ⟨hvsn, rfl, rfl⟩ := trodAll_nil r1
  simp only [hvsn, hvs1] at hargs
  obtain rfl : args = #[v0, v1] := by cases args; simp_all
  obtain ⟨rfl, rfl⟩ := trodVars_none hV
  clear hA0
  obtain ⟨a0, rfl, rfl, rfl, w0⟩ := open_int Try.underlying3 (hval 0 3 v0 rfl rfl) h0
  have b0 := bounds_int w0
  obtain ⟨p1a, cap1, l1, rfl, i1⟩ := open_intsl Try.underlying22 Try.underlying3 (by kernel_rfl) (hval 1 22 v1 rfl rfl) h1 (fun x hx => hlt x (by simp [hx]))
  exact law_post 4 laid reads rfl Try.underlying4 rfl hW' ⟨rfl, rfl, rfl⟩ (law_any a0 p1a _ _ l1 W rfl i1)

set_option maxRecDepth 100000 in
theorem lifted (os : Os) (started : os.Started) (H : Type) (enc : TypeId × Value → H) :
    ReturnsInHanded {} Try.checked os 7 .any (Rows.topTurnsSpec.pre6 enc Try.prog Try.f7 Rows.topTurnsRow.domain false) (Rows.topTurnsSpec.post enc Try.prog Try.f7 false true false false) := by
  refine returnsInHanded_of_change (C := Try.checked) own started (by kernel_rfl) Try.func7
    (ChangeSpec.witness6 (enc := enc) (C := Try.checked) false ⟨#[], #[.int .i64 0, .slice none 0 0], []⟩ 8 (by kernel_rfl) (by kernel_rfl) (by kernel_rfl) (by kernel_rfl)) ?_
  intro W base args ds gs before hval hW _ _
  exact contract H enc W base args ds gs before hval hW

theorem proved : Rows.TopTurnsSaid :=
  OpenClaim.holds_of_wide 7 Try.f7 rfl rfl rfl rfl rfl rfl rfl ⟨rfl, rfl, rfl, rfl, rfl⟩ rfl rfl rfl rfl rfl (by kernel_rfl) Try.func7 (by kernel_rfl)
    (of_decide_eq_true (by kernel_rfl)) (by unfold Func.isWrapper; first | (rw [if_pos (by decide +kernel)]; kernel_rfl) | (rw [if_neg (by decide +kernel)]; exact ⟨rfl, rfl⟩))
    (fun os started H enc _ => lifted os started H enc)
end Go.Proofs.Yteggajhpjdidcaa.TopTurnsL
