/- Package retry: due, slices.Delete at one station. No statement is proved here. -/
import Derived.Test.YteggajhpjdidcaaRetry2
import Derived.Deep.RegionLaw
namespace Go.Proofs.Yteggajhpjdidcaa.Retry
open Go.ChangeShapes Go.WideShapes Go.ChangeAt Go.RowKit Go.Proofs.Yteggajhpjdidcaa.Kit Go.Proofs.Yteggajhpjdidcaa.App Go.Proofs.Yteggajhpjdidcaa.Cells Go.Proofs.Yteggajhpjdidcaa.Err Go.Proofs.Yteggajhpjdidcaa.RetryMath
set_option linter.unusedVariables false
set_option maxRecDepth 20000
set_option maxHeartbeats 1000000

def cast (l : List Nat) : List Int := l.map fun i => ((i : Nat) : Int)
theorem cast_len {l : List Nat} : (cast l).length = l.length := List.length_map ..
theorem cast_app {l m : List Nat} : cast (l ++ m) = cast l ++ cast m := List.map_append ..
theorem cast_get {l : List Nat} {k i : Nat} (h : l[k]? = some i) : (cast l)[k]?.getD 0 = (i : Int) := by unfold cast; rw [List.getElem?_map, h]; rfl
theorem wf_small {x : Nat} (h : x ≤ 1000000) : (Lit.int .i64 (x : Int)).wf = true := by simp [Lit.wf, IntKind.min, IntKind.max, IntKind.signed, IntKind.bits]; omega
theorem due_any (base g c cap : Nat) (L : List S) (w : World) (ho : OS w base (.slice (some ⟨g, 0, none⟩) c cap) L) (hc : c ≤ 5) (hw : ∀ (k : Nat) (x : S), L[k]? = some x → x.2.2 ≤ 5000) :
    Calls Try.prog 18 #[.slice (some ⟨g, 0, none⟩) c cap] w fun e w' => (∃ v, e = .returned v ∧ OwnI w' w.heap.size v (cast (pl L c)) ∧ OS w' base (.slice (some ⟨g, 0, none⟩) c cap) (L.map dec)) ∧ w.grownBy w' (some g) := by
  obtain ⟨hn, hcap, hcm, hbg, hgs⟩ := os_caps ho
  have HN := Lib.hid hn
  have HO := Lib.hid (show OS w base (.slice (some ⟨g, 0, none⟩) c cap) (mix L 0) by rw [mix_zero]; exact ho)
  have HWT := Lib.hid hw
  have HPL := Lib.hid (show ∀ k, (pl L k).length ≤ k from fun k => pl_len)
  clear ho hn hw
  obtain ⟨B, hB⟩ : ∃ B, w.heap.size = B := ⟨_, rfl⟩
  have HB := Lib.hid hB
  rw [hB] at hgs ⊢
  go_enter Try.func18, Try.ntmps18
  go_wp2_with fail
  go_loopw [2, 6] (fun ov iv wr => ∃ (k : Nat) (o : Value), k ≤ c ∧ o = ov ∧ iv = .int .i64 (k : Int) ∧ Hid (OwnI wr B o (cast (pl L k))) ∧ Hid (OS wr base (.slice (some ⟨g, 0, none⟩) c cap) (mix L k)) ∧ Hid (w.grownBy wr (some g))) (fun _ i _ => c - (intOf i).toNat)
  case atStart => exact ⟨0, _, Nat.zero_le _, rfl, rfl, Lib.hid (OwnI.nil _ _), HO, Lib.hid (grefl _ _)⟩
  case round =>
    clear HO
    obtain ⟨k, o, hk, rfl, rfl, HI, HR, HG⟩ := hrel
    by_cases hlt : k < c
    · have u1 : decide ((k : Int) < (c : Int)) = true := decide_eq_true (by omega)
      have u2 : (k : Int) < (c : Int) := by omega
      have hkL : k < L.length := by rw [← HN.out]; exact hlt
      obtain ⟨x, hx⟩ : ∃ x, L[k]? = some x := ⟨_, List.getElem?_eq_getElem hkL⟩
      obtain ⟨_, _, c3, hf⟩ := os_at HR.out (by rw [mix_len]; exact HN.out) k x (mix_get x hx)
      have f3 := hf (k * 3 + 2)
      have hx5 := HWT.out k x hx
      have HX := Lib.hid hx
      have hsz : B ≤ wr.heap.size := by rw [← hB]; exact HG.out.size
      clear hf hx hkL
      by_cases h0 : x.2.2 = 0
      · have HP := Lib.hid (show cast (pl L (k + 1)) = cast (pl L k) ++ [(k : Int)] by rw [pl_succ x HX.out, if_pos h0, cast_app]; rfl)
        have HM := Lib.hid (mix_same x HX.out h0)
        have HI2 := Lib.hid (HI.out.alloc (.cells #[.int .i64 (k : Int)] 3))
        have HLE := Lib.hid (show (cast (pl L k)).length ≤ 5 by rw [cast_len]; have := HPL.out k; omega)
        rw [h0] at c3
        clear h0
        go_wp2_with (first
          | (at_builtin
             refine wp_app rfl (.tmp 15) (.tmp 17) rfl B o (cast (pl L k)) (some ⟨wr.heap.size, 0, none⟩) 1 1 [(k : Int)] rfl HI2.out rfl rfl (Ints.one wr (k : Int) (wf_small (by omega))) (by have := HLE.out; simp; omega) (by simp; omega) ?_
             intro o2 w6 ho2 hg2 hat2
             have HO2 := Lib.hid (show OwnI w6 B o2 (cast (pl L (k + 1))) by rw [HP.out]; exact ho2)
             have HG2 := Lib.hid (show w.grownBy w6 (some g) from gnew (gtrans HG.out (World.grownBy_alloc wr (.cells #[.int .i64 (k : Int)] 3) (some g))) hg2 (fun q hq => by rw [hB]; exact (HI.out.lt q hq).1))
             have HR2 := Lib.hid (show OS w6 base (.slice (some ⟨g, 0, none⟩) c cap) (mix L (k + 1)) by
               rw [HM.out]
               exact (HR.out.alloc (.cells #[.int .i64 (k : Int)] 3)).more hg2 (.inr (fun e => by have := (HI.out.lt g e.symm).1; omega)))
             clear ho2 hg2 hat2))
        go_roundw
        case rel => exact ⟨k + 1, _, by omega, rfl, by first | rfl | go_num, HO2, HR2, HG2⟩
        case measure => simp [intOf]; omega
      · have HP := Lib.hid (show cast (pl L (k + 1)) = cast (pl L k) by rw [pl_succ x HX.out, if_neg h0, List.append_nil])
        have t0 : (((x.2.2 : Nat) : Int) == 0) = false := by rw [beq_eq_false_iff_ne]; omega
        obtain ⟨z, hz⟩ : ∃ z, x.2.2 = z + 1 := ⟨x.2.2 - 1, by omega⟩
        have HR2 := Lib.hid (show OS (wr.setCell ⟨g, k * 3 + 2, none⟩ (.int .i64 (z : Int))) base (.slice (some ⟨g, 0, none⟩) c cap) (mix L (k + 1)) by
          rw [← mix_set x HX.out]
          refine os_set 2 _ (by decide) HR.out (by rw [mix_len]; exact HN.out) k x (dec x) (mix_get x HX.out) ?_
          unfold dec
          rw [show x.2.2 - 1 = z by omega]
          rfl)
        have HG2 := Lib.hid (grown_set HG.out (k * 3 + 2) (.int .i64 (z : Int)))
        have HI2 := Lib.hid (show OwnI (wr.setCell ⟨g, k * 3 + 2, none⟩ (.int .i64 (z : Int))) B o (cast (pl L (k + 1))) by
          rw [HP.out]
          exact HI.out.more (set_grown wr g (k * 3 + 2) _) (.inr (fun e => by have := (HI.out.lt g e).1; omega)))
        rw [hz] at c3 t0 hx5
        rw [show ((z + 1 : Nat) : Int) = (z : Int) + 1 from rfl] at c3 t0
        clear h0 hz
        go_wp2_with fail
        go_roundw
        case rel => exact ⟨k + 1, _, by omega, rfl, by first | rfl | go_num, HI2, HR2, HG2⟩
        case measure => simp [intOf]; omega
    · obtain rfl : k = c := by omega
      have u1 : decide ((k : Int) < (k : Int)) = false := decide_eq_false (by omega)
      go_wp2_with fail
      go_ret
      exact ⟨⟨_, rfl, HI.out, by
        have h := HR.out
        rw [show mix L k = L.map dec by rw [← mix_all, ← HN.out]] at h
        exact h⟩, HG.out⟩

theorem grown_from {w w' : World} {r : Option Nat} (h : w.drew.grownBy w' r) : w.grownBy w' r := ⟨h.os, h.tape, h.output, h.size, h.block⟩
theorem slS : Try.prog.underlying 41 = some (.slice (Try.prog.elem 41)) := by kernel_rfl
theorem size3 (W : World) : (sizeOf (Try.prog.elem 41)).run Try.prog W = .ok 3 W := by
  have h : (Try.prog.info? (Try.prog.elem 41)).map (fun i => i.size) = some 3 := by kernel_rfl
  obtain ⟨i, hi, hz⟩ := Option.map_eq_some_iff.1 h
  simp only [sizeOf, typeInfo, Sem.run_bind, run_program, Result.andThen_ok, hi, hz, Sem.run_pure]
end Go.Proofs.Yteggajhpjdidcaa.Retry
