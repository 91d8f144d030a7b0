/- RingTurns: every station sends within one round: for every input. No condition. -/
import Derived.Test.YtckfobkkjiiheaaRingFact
import Derived.BigQuiet
import Derived.Test.YtckfobkkjiiheaaHasIn
import Derived.Test.YtckfobkkjiiheaaRpfSum
namespace Go.Proofs.Ytckfobkkjiiheaa.RingTurnsL
open Go.ChangeShapes Go.WideShapes Go.ChangeAt Go.RowKit Go.Proofs.Ytckfobkkjiiheaa.Kit Go.Proofs.Ytckfobkkjiiheaa.App Go.Proofs.Ytckfobkkjiiheaa.Err Go.Proofs.Ytckfobkkjiiheaa.RingMath Go.Proofs.Ytckfobkkjiiheaa.Ring
set_option linter.unusedVariables false
set_option maxRecDepth 20000
set_option maxHeartbeats 4000000
abbrev Law (p : Option Addr) (cap n : Nat) (x : Int) (w : World) : Prop := Calls Try.prog 4 #[.slice p n cap, .int .i64 x] w fun e w' => e = .returned (.bool true) ∧ Below w.heap.size w w'
theorem sum_fn {l : List Int} (hl : ∀ k, k < l.length → 0 ≤ l[k]?.getD 0) : l.sum = ((sm (fn l) l.length : Nat) : Int) := by
  have key : ∀ k, k ≤ l.length → (l.take k).sum = ((sm (fn l) k : Nat) : Int) := fun k => by
    induction k with
    | zero => exact fun _ => rfl
    | succ k ih =>
      intro hk
      have h1 := hl k (by omega)
      rw [List.take_succ_eq_append_getElem (by omega), List.sum_append, ih (by omega), sm]
      rw [List.getElem?_eq_getElem (by omega)] at h1
      have h2 : ((fn l k : Nat) : Int) = l[k] := by
        unfold fn
        rw [List.getElem?_eq_getElem (by omega)]
        simp only [Option.getD_some] at h1 ⊢
        omega
      simp
      omega
  have := key l.length (Nat.le_refl _)
  rwa [List.take_length] at this
theorem law_bad (p : Option Addr) (cap n : Nat) (l : List Int) (x : Int) (w : World) (hn : n = l.length) (hi : Ints w p cap l) (c : Int) (hc : codeH l x = c) (h0 : c ≠ 0) : Law p cap n x w := by
  have hlen := hi.len_le
  rw [← hn] at hlen
  have RB := Lib.hid (fun W (hW : Below w.heap.size w W) => run_bad p cap n l x W hn (hi.below hW) c hc h0)
  rw [er_ne h0] at RB
  clear hn hi hc h0
  have FA := Lib.hid (Ring.fact_any w)
  unfold Law
  go_enter Try.func4, Try.ntmps4
  go_wp2_with fail
  refine FA.out.mono ?_; rintro e w1 ⟨rfl, hb1⟩
  have HB1 := Lib.hid hb1
  clear FA hb1
  go_wp2_with fail
  refine (RB.out w1 HB1.out).mono ?_; rintro e w2 ⟨rfl, hb⟩
  have HB2 := Lib.hid (bcall HB1.out hb)
  clear RB HB1 hb
  go_wp2_with fail
  go_ret
  exact ⟨by first | rfl | simp, HB2.out⟩
theorem law_good (p : Option Addr) (cap n : Nat) (l : List Int) (h : Nat) (w : World) (hn : n = l.length) (hi : Ints w p cap l) (g : Ring.Good l h) : Law p cap n (h : Int) w := by
  have hlen := hi.len_le
  rw [← hn] at hlen
  have RG := Lib.hid (fun W (hW : Below w.heap.size w W) => run_good p cap n l h W hn (hi.below hW) g)
  have GG := Lib.hid (fun W (hW : Below w.heap.size w W) => gap_good p cap n l h W hn (hi.below hW) g)
  have hn8 : n ≤ 8 := by rw [hn]; exact g.up
  have hn1 : 1 ≤ n := by rw [hn]; exact g.lo
  have hh1 := g.h1
  have hh20 := g.h20
  have HI := Lib.hid hi
  have HN := Lib.hid hn
  have HG := Lib.hid g
  obtain ⟨bw, ow, hpw, hbw, hcw⟩ := hi.2.2.2 (by omega)
  subst hpw
  have CW := Lib.hid (fun W (hW : Below w.heap.size w W) j (hj : j < n) => (show W.cell? ⟨bw, ow + j, none⟩ = some (.int .i64 ((fn l j : Nat) : Int)) ∧ fn l j ≤ 20 from by
    have h1 := g.fn (k := j) (by omega)
    refine ⟨?_, h1.2⟩
    rw [hW.cell (p := ⟨bw, ow + j, none⟩) hbw, hcw j (by omega), h1.1]))
  have SU := Lib.hid (fun W (hW : Below w.heap.size w W) => Aimd.sums_any (some ⟨bw, ow, none⟩) cap n l W hn (hi.below hW) (by omega) (fun x hx => by
    obtain ⟨k, hk, rfl⟩ := List.mem_iff_getElem.1 hx
    have := g.all k hk
    rw [List.getElem?_eq_getElem hk] at this
    simp only [Option.getD_some] at this
    omega))
  have hsum : l.sum = (((ord l h).length : Nat) : Int) := by rw [g.len.1]; exact sum_fn (fun k hk => (g.all k hk).1)
  rw [hsum] at SU
  obtain ⟨L, hL⟩ : ∃ L, ord l h = L := ⟨_, rfl⟩
  have HTA := Lib.hid (fun i (hi : i < n) (h0 : 0 < fn l i) => (show L[sm (fun k => min (fn l k) h) i]? = some i ∧ i ∉ L.take (sm (fun k => min (fn l k) h) i) ∧ sm (fun k => min (fn l k) h) i < L.length from by
    rw [← hL]; exact turn_at g.h1 g.top (by omega) h0))
  have HLL := Lib.hid (show L.length ≤ 160 from by rw [← hL]; exact g.len.2)
  rw [hL] at RG SU
  clear hn hi g hbw hcw hL hsum GG
  have FA := Lib.hid (Ring.fact_any w)
  unfold Law
  go_enter Try.func4, Try.ntmps4
  go_wp2_with fail
  refine FA.out.mono ?_; rintro e w1 ⟨rfl, hb1⟩
  have HB1 := Lib.hid hb1
  clear FA hb1
  go_wp2_with fail
  refine (RG.out w1 HB1.out).mono ?_; rintro e w2 ⟨u, rfl, ho, hb⟩
  have HB2 := Lib.hid (bcall HB1.out hb)
  obtain ⟨pu, cu, rfl, iu⟩ := ho.form
  rw [nat_len]
  have IU := Lib.hid iu
  obtain ⟨q, hq⟩ : ∃ q, L.length = q := ⟨_, rfl⟩
  rw [hq] at SU ⊢
  have HQ := Lib.hid hq
  have hq160 : q ≤ 160 := by rw [← hq]; exact HLL.out
  clear RG HB1 ho iu hb hq
  go_wp2_with fail
  go_loopw [8] (fun iv wr => ∃ i : Nat, i ≤ n ∧ iv = .int .i64 i ∧ Hid (Below w2.heap.size w2 wr)) (fun i _ => n - (intOf i).toNat)
  case atStart => exact ⟨0, Nat.zero_le _, rfl, Lib.hid (brefl _)⟩
  case round =>
    obtain ⟨i, hin, rfl, HR⟩ := hrel
    by_cases hlt : i < n
    · have v0 : decide ((i : Int) < (n : Int)) = true := decide_eq_true (by omega)
      have v1 : (i : Int) < (n : Int) := by omega
      obtain ⟨ci, h20⟩ := CW.out wr (bcall HB2.out HR.out) i hlt
      by_cases h0 : fn l i = 0
      · have t1 : (((0 : Nat) : Int) == 0) = true := by decide
        rw [h0] at ci
        clear h0
        go_wp2_with fail
        go_roundw
        case rel => exact ⟨i + 1, by omega, by first | rfl | go_num, HR⟩
        case measure => simp [intOf]; omega
      · have HT3 := Lib.hid (HTA.out i hlt (by omega))
        obtain ⟨y, hy⟩ : ∃ y, fn l i = y := ⟨_, rfl⟩
        rw [hy] at ci h20
        have t1 : ((y : Int) == 0) = false := beq_eq_false_iff_ne.2 (by omega)
        have t1n : ¬ y = 0 := by omega
        have t1b : (y == 0) = false := beq_eq_false_iff_ne.2 (by omega)
        clear h0 hy
        go_wp2_with fail
        clear ci
        go_loopw [9, 10] (fun av kv wk => ∃ k : Nat, k ≤ i ∧ kv = .int .i64 k ∧ av = .int .i64 ((sm (fun k => min (fn l k) h) k : Nat) : Int) ∧ wk = wr) (fun _ k _ => i - (intOf k).toNat)
        case atStart => exact ⟨0, Nat.zero_le _, rfl, rfl, rfl⟩
        case round =>
          obtain ⟨k, hk, rfl, rfl, rfl⟩ := hrel
          have hsm := sm_le (fun k => min (fn l k) h) 20 k (fun j hj => by show min _ _ ≤ 20; omega)
          by_cases hlk : k < i
          · have v2 : decide ((k : Int) < (i : Int)) = true := decide_eq_true (by omega)
            have v3 : (k : Int) < (n : Int) := by omega
            obtain ⟨ck, hk20⟩ := CW.out wr (bcall HB2.out HR.out) k (by omega)
            have HSM := Lib.hid (show sm (fun k => min (fn l k) h) (k + 1) = sm (fun k => min (fn l k) h) k + min (fn l k) h from rfl)
            obtain ⟨r, hr⟩ : ∃ r, sm (fun k => min (fn l k) h) k = r := ⟨_, rfl⟩
            rw [hr] at hsm HSM ⊢
            obtain ⟨z, hz⟩ : ∃ z, fn l k = z := ⟨_, rfl⟩
            rw [hz] at ck hk20 HSM
            clear hr hz
            by_cases hzh : z < h
            · have t2 : decide ((z : Int) < (h : Int)) = true := decide_eq_true (by omega)
              have t2n : decide (z < h) = true := decide_eq_true hzh
              have HS2 := Lib.hid (show sm (fun k => min (fn l k) h) (k + 1) = r + z from by rw [HSM.out, Nat.min_eq_left (by omega)])
              have hw9 : IntKind.i64.wrap ((r : Int) + (z : Int)) = (r : Int) + (z : Int) := wrap_in (by omega)
              clear hzh
              go_wp2_with fail
              go_roundw
              case rel => exact ⟨k + 1, by omega, by first | rfl | go_num, by rw [HS2.out]; first | rfl | go_num | simp, by first | trivial | rfl⟩
              case measure => simp [intOf]; omega
            · have t2 : decide ((z : Int) < (h : Int)) = false := decide_eq_false (by omega)
              have t2n : decide (z < h) = false := decide_eq_false hzh
              have HS2 := Lib.hid (show sm (fun k => min (fn l k) h) (k + 1) = r + h from by rw [HSM.out, Nat.min_eq_right (by omega)])
              have hw9 : IntKind.i64.wrap ((r : Int) + (h : Int)) = (r : Int) + (h : Int) := wrap_in (by omega)
              clear hzh
              go_wp2_with fail
              go_roundw
              case rel => exact ⟨k + 1, by omega, by first | rfl | go_num, by rw [HS2.out]; first | rfl | go_num | simp, by first | trivial | rfl⟩
              case measure => simp [intOf]; omega
          · obtain rfl : k = i := by omega
            have v2 : decide ((k : Int) < (k : Int)) = false := decide_eq_false (by omega)
            obtain ⟨a1, a2, a3⟩ := HT3.out
            obtain ⟨r, hr⟩ : ∃ r, sm (fun k => min (fn l k) h) k = r := ⟨_, rfl⟩
            rw [hr] at a1 a2 a3 ⊢
            rw [HQ.out] at a3
            obtain ⟨bl, ol, hpl, hbl, hcl⟩ := (IU.out.below HR.out).2.2.2 (by rw [nat_len, HQ.out]; omega)
            subst hpl
            have hcu : q ≤ cu := by have := IU.out.1; rwa [nat_len, HQ.out] at this
            have x0 := hcl r (by rw [nat_len, HQ.out]; exact a3)
            rw [nat_get a1] at x0
            have t3 : decide ((r : Int) ≥ (q : Int)) = false := decide_eq_false (by omega)
            have t3n : decide (q ≤ r) = false := decide_eq_false (by omega)
            have t4 : ((k : Int) != (k : Int)) = false := by simp
            have v4 : (r : Int) < (q : Int) := by omega
            have v5 : (r : Int) ≤ (cu : Int) := by omega
            have v5n : r ≤ cu := by omega
            have HH := Lib.hid (has_in (some ⟨bl, ol, none⟩) cu r ((nat L).take r) (k : Int) wr (by rw [List.length_take, nat_len, HQ.out]; omega) (ints_cut (IU.out.below HR.out) r (by rw [nat_len, HQ.out]; omega) cu v5n (by have := IU.out.2.1; exact this)) false (by
              symm
              rw [decide_eq_false_iff_not]
              intro hm
              unfold nat at hm
              rw [← List.map_take] at hm
              obtain ⟨v, hv, e⟩ := List.mem_map.1 hm
              have : v = k := by omega
              exact a2 (this ▸ hv)))
            clear a1 a2 hr hcl hbl HTA HT3 hsm
            go_wp2_with fail
            refine HH.out.mono ?_; rintro e w5 ⟨rfl, hw5⟩
            rw [hw5]
            clear hw5 w5 HH
            go_wp2_with fail
            go_roundw
            case rel => exact ⟨k + 1, by omega, by first | rfl | go_num, HR⟩
            case measure => simp [intOf]; omega
    · obtain rfl : i = n := by omega
      have v0 : decide ((i : Int) < (i : Int)) = false := decide_eq_false (by omega)
      have S2 := Lib.hid (SU.out wr (bcall HB2.out HR.out))
      have t5 : ((q : Int) == (q : Int)) = true := by simp
      have HBF := Lib.hid (bcall HB2.out HR.out)
      go_wp2_with fail
      refine S2.out.mono ?_; rintro e w5 ⟨rfl, hw5⟩
      rw [hw5]
      clear hw5 w5 S2
      go_wp2_with fail
      go_ret
      exact ⟨by first | rfl | simp, HBF.out⟩
theorem law_any (p : Option Addr) (cap n : Nat) (l : List Int) (x : Int) (w : World) (hn : n = l.length) (hi : Ints w p cap l) : Law p cap n x w := by
  by_cases h : codeH l x = 0
  · obtain ⟨k, rfl, g⟩ := codeH_zero h
    exact law_good p cap n l k w hn hi g
  · exact law_bad p cap n l x w hn hi _ rfl h

theorem reads : Try.f4.params.toList.all (fun t => Try.prog.readableRec t && decide (t < Try.prog.types.size)) = true := by kernel_rfl

theorem contract (H : Type) (enc : TypeId × Value → H) (W : World) (base : Nat) (args : Array Value) (ds gs : List (DataW H)) (before : List MemPlace)
    (hval : ∀ (j : Nat) t v, Try.f4.params[j]? = some t → args[j]? = some v → Value.okWide Try.prog W .any base t v)
    (hW : DataW.Whole enc Try.prog Try.f4.params.toList Rows.ringTurnsSpec.vars false W args.toList ds gs before) :
    Calls Try.prog 4 args W fun e W' => ∃ v, e = .returned v ∧ Rows.ringTurnsSpec.post enc Try.prog Try.f4 false true false false W args v W' := by
  have hW' := hW
  obtain ⟨p, q, hA0, hV, rfl, hfz, hnd⟩ := hW
  have hA : DataW.TrodAll enc Try.prog W 0 (fun _ => true) true Try.f4.params.toList args.toList ds p := hA0
  have hlt := hA.lt
  rw [Try.params4] at hA hval
  obtain ⟨v0, vs0, d0, ds0, p0, q0, hargs, rfl, rfl, h0, r0⟩ := trodAll_cons hA
  obtain ⟨v1, vs1, d1, ds1, p1, q1, hvs1, rfl, rfl, h1, r1⟩ := trodAll_cons r0
  obtain ⟨hvsn, rfl, rfl⟩ := trodAll_nil r1
  simp only [hvsn, hvs1] at hargs
  obtain rfl : args = #[v0, v1] := by cases args; simp_all
  obtain ⟨rfl, rfl⟩ := trodVars_none hV
  clear hA0
  obtain ⟨p0a, cap0, l0, rfl, i0⟩ := open_intsl Try.underlying22 Try.underlying3 (by kernel_rfl) (hval 0 22 v0 rfl rfl) h0 (fun x hx => hlt x (by simp [hx]))
  obtain ⟨a1, rfl, rfl, rfl, w1⟩ := open_int Try.underlying3 (hval 1 3 v1 rfl rfl) h1
  have b1 := bounds_int w1
  exact law_post 4 laid reads rfl Try.underlying4 rfl hW' ⟨rfl, rfl, rfl⟩ (law_any p0a _ _ l0 a1 W rfl i0)

set_option maxRecDepth 100000 in
theorem lifted (os : Os) (started : os.Started) (H : Type) (enc : TypeId × Value → H) :
    ReturnsInHanded {} Try.checked os 4 .any (Rows.ringTurnsSpec.pre6 enc Try.prog Try.f4 Rows.ringTurnsRow.domain false) (Rows.ringTurnsSpec.post enc Try.prog Try.f4 false true false false) := by
  refine returnsInHanded_of_change (C := Try.checked) own started (by kernel_rfl) Try.func4
    (ChangeSpec.witness6 (enc := enc) (C := Try.checked) false ⟨#[], #[.slice none 0 0, .int .i64 0], []⟩ 8 (by kernel_rfl) (by kernel_rfl) (by kernel_rfl) (by kernel_rfl)) ?_
  intro W base args ds gs before hval hW _ _
  exact contract H enc W base args ds gs before hval hW

theorem proved : Rows.RingTurnsSaid :=
  OpenClaim.holds_of_wide 4 Try.f4 rfl rfl rfl rfl rfl rfl rfl ⟨rfl, rfl, rfl, rfl, rfl⟩ rfl rfl rfl rfl rfl (by kernel_rfl) Try.func4 (by kernel_rfl)
    (of_decide_eq_true (by kernel_rfl)) (by unfold Func.isWrapper; first | (rw [if_pos (by decide +kernel)]; kernel_rfl) | (rw [if_neg (by decide +kernel)]; exact ⟨rfl, rfl⟩))
    (fun os started H enc _ => lifted os started H enc)
end Go.Proofs.Ytckfobkkjiiheaa.RingTurnsL
