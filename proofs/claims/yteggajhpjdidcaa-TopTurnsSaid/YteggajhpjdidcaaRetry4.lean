/- Package retry: slices.Delete at one station. No statement is proved here. -/
import Derived.Test.YteggajhpjdidcaaRetry3
namespace Go.Proofs.Yteggajhpjdidcaa.Retry
open Go.ChangeShapes Go.WideShapes Go.ChangeAt Go.RowKit Go.Proofs.Yteggajhpjdidcaa.Kit Go.Proofs.Yteggajhpjdidcaa.App Go.Proofs.Yteggajhpjdidcaa.Cells Go.Proofs.Yteggajhpjdidcaa.Err Go.Proofs.Yteggajhpjdidcaa.RetryMath
set_option linter.unusedVariables false
set_option maxRecDepth 20000
set_option maxHeartbeats 1000000

theorem cut3 (g n cap p : Nat) (hp : p + 1 ≤ n) (hn : n ≤ cap) : ∃ v, (∀ W, (Instr.sliceAt 41 (.slice (some ⟨g, 0, none⟩) n cap) (some (.int .i64 (p : Int))) (some (.int .i64 ((p : Int) + 1))) (some (.int .i64 (n : Int)))).run Try.prog W = .ok v W) ∧ ∀ W, (Instr.slice 41 (.slice (some ⟨g, 0, none⟩) n cap) (some (.int .i64 (p : Int))) (some (.int .i64 ((p : Int) + 1))) (some (.int .i64 (n : Int)))).run Try.prog W = .ok v W := by
  refine ⟨_, fun W => by
    rw [run_sliceAt_slice W _ _ _ _ _ slS, run_slice_lhm W _ _ _ _ slS .i64 .i64 .i64 (p : Int) ((p : Int) + 1) (n : Int) (by omega) (by omega) (by omega) (by omega), size3]
    simp only [Result.andThen_ok]
    rfl, fun W => by
    rw [run_slice_lhm W _ _ _ _ slS .i64 .i64 .i64 (p : Int) ((p : Int) + 1) (n : Int) (by omega) (by omega) (by omega) (by omega), size3]
    simp only [Result.andThen_ok]⟩
theorem cutT (g n cap p r : Nat) (hp : p + 1 + r = n) (hn : n ≤ cap) : ∃ o c, (∀ W, (Instr.sliceAt 41 (.slice (some ⟨g, 0, none⟩) n cap) (some (.int .i64 ((p : Int) + 1))) none none).run Try.prog W = .ok (.slice (some ⟨g, o, none⟩) r c) W) ∧ (∀ W, (Instr.slice 41 (.slice (some ⟨g, 0, none⟩) n cap) (some (.int .i64 ((p : Int) + 1))) none none).run Try.prog W = .ok (.slice (some ⟨g, o, none⟩) r c) W) ∧ (0 < r → o = (p + 1) * 3) ∧ c + (p + 1) = cap := by
  have e : ∀ W, (Instr.slice 41 (.slice (some ⟨g, 0, none⟩) n cap) (some (.int .i64 ((p : Int) + 1))) none none).run Try.prog W = .ok (.slice (some ⟨g, if cap = p + 1 then 0 else (p + 1) * 3, none⟩) r (cap - (p + 1))) W := fun W => by
    rw [run_slice_l W _ _ _ _ slS .i64 ((p : Int) + 1) (by omega) (by omega), size3]
    simp only [Result.andThen_ok, sliced]
    rw [show ((p : Int) + 1).toNat = p + 1 by omega, show n - (p + 1) = r by omega]
    congr 2
    split <;> simp [Addr.add]
  exact ⟨_, _, fun W => by rw [run_sliceAt_slice W _ _ _ _ _ slS]; exact e W, e, fun h => by rw [if_neg (by omega)], by omega⟩
theorem cutH (g n cap p : Nat) (hp : p ≤ n) (hn : n ≤ cap) : (∀ W, (Instr.sliceAt 41 (.slice (some ⟨g, 0, none⟩) n cap) none (some (.int .i64 (p : Int))) none).run Try.prog W = .ok (.slice (some ⟨g, 0, none⟩) p cap) W) ∧ (∀ W, (Instr.slice 41 (.slice (some ⟨g, 0, none⟩) n cap) none (some (.int .i64 (p : Int))) none).run Try.prog W = .ok (.slice (some ⟨g, 0, none⟩) p cap) W) := by
  have e : ∀ W, (Instr.slice 41 (.slice (some ⟨g, 0, none⟩) n cap) none (some (.int .i64 (p : Int))) none).run Try.prog W = .ok (.slice (some ⟨g, 0, none⟩) p cap) W := fun W => by
    rw [run_slice_h W _ _ _ _ slS .i64 (p : Int) (by omega) (by omega), size3]
    simp only [Result.andThen_ok, sliced, Int.toNat_natCast]
    simp [Addr.add]
  exact ⟨fun W => by rw [run_sliceAt_slice W _ _ _ _ _ slS]; exact e W, e⟩
theorem cutE (g q n cap : Nat) (hq : q + 1 = n) (hn : n ≤ cap) : (∀ W, (Instr.sliceAt 41 (.slice (some ⟨g, 0, none⟩) q cap) (some (.int .i64 (q : Int))) (some (.int .i64 (n : Int))) none).run Try.prog W = .ok (.slice (some ⟨g, q * 3, none⟩) 1 (cap - q)) W) ∧ (∀ W, (Instr.slice 41 (.slice (some ⟨g, 0, none⟩) q cap) (some (.int .i64 (q : Int))) (some (.int .i64 (n : Int))) none).run Try.prog W = .ok (.slice (some ⟨g, q * 3, none⟩) 1 (cap - q)) W) := by
  have e : ∀ W, (Instr.slice 41 (.slice (some ⟨g, 0, none⟩) q cap) (some (.int .i64 (q : Int))) (some (.int .i64 (n : Int))) none).run Try.prog W = .ok (.slice (some ⟨g, q * 3, none⟩) 1 (cap - q)) W := fun W => by
    rw [run_slice_lh W _ _ _ _ slS .i64 .i64 (q : Int) (n : Int) (by omega) (by omega) (by omega), size3]
    simp only [Result.andThen_ok, sliced, Int.toNat_natCast]
    rw [if_neg (by omega), show n - q = 1 by omega]
    simp [Addr.add]
    omega
  exact ⟨fun W => by rw [run_sliceAt_slice W _ _ _ _ _ slS]; exact e W, e⟩
theorem step_fit {w : World} {ops : Array Oper} {o : Oper} {a : Act} {K : Act → World → Prop} {Q : Exit → Act → World → Prop} {E : Prop} (hgd : o.guard = none) (s x : Operand)
    (ho : o.op = .call { callee := .builtin .append, args := #[s, x], argTypes := #[41, 41] })
    (base g n cap : Nat) (xs : List S) (p : Addr) (c m : Nat) (l : List S) (hs : a.eval s = .slice (some ⟨g, 0, none⟩) n cap) (hown : OS w base (.slice (some ⟨g, 0, none⟩) n cap) xs) (hx : a.eval x = .slice (some p) m c) (hn : n = xs.length) (hm : m = l.length) (hl : CI lay w (some p) c l)
    (q : Nat) (hq : n + m = q) (hroom : q ≤ cap)
    (h : ∀ w', OS w' base (.slice (some ⟨g, 0, none⟩) q cap) (xs ++ l) → w.grownBy w' (some g) → K (a.put o.dst (.slice (some ⟨g, 0, none⟩) q cap)) w') :
    if Region.wanted o (yielded ops a.tmps) = true then Oper.wp Try.prog o a w K Q else E := by
  subst hq
  exact step_appFit tyS hgd s x ho base g n cap xs p c m l hs hown hx hn hm hl hroom h
theorem cut_any (base g n cap p : Nat) (L : List S) (w : World) (ho : OS w base (.slice (some ⟨g, 0, none⟩) n cap) L) (hp : p < n) (q : Nat) (hq : q + 1 = n) :
    Calls Try.prog 19 #[.slice (some ⟨g, 0, none⟩) n cap, .int .i64 (p : Int), .int .i64 ((p : Int) + 1)] w fun e w' => e = .returned (.slice (some ⟨g, 0, none⟩) q cap) ∧ OS w' base (.slice (some ⟨g, 0, none⟩) q cap) (L.take p ++ L.drop (p + 1)) ∧ w.grownBy w' (some g) := by
  obtain ⟨hn, hcap, hcm, hbg, hgs⟩ := os_caps ho
  obtain ⟨r, hr⟩ : ∃ r, p + 1 + r = n := ⟨n - (p + 1), by omega⟩
  obtain ⟨v3, a1, a2⟩ := cut3 g n cap p (by omega) hcap
  obtain ⟨o, c, b1, b2, b3, b4⟩ := cutT g n cap p r hr hcap
  obtain ⟨h1, h2⟩ := cutH g n cap p (by omega) hcap
  obtain ⟨e1, e2⟩ := cutE g q n cap hq hcap
  have htl : (L.take p).length = p := by rw [List.length_take]; omega
  have hdl : (L.drop (p + 1)).length = r := by rw [List.length_drop]; omega
  have HC := Lib.hid (show OS w.drew base (.slice (some ⟨g, 0, none⟩) p cap) (L.take p) from by
    obtain ⟨hl, ⟨e1, _⟩ | ⟨g', cap', cur, e1, hb, hh, hnc, hcm, hcs, ht⟩⟩ := ho
    · cases e1
    · injection e1 with e1 e2 e3
      injection e1 with e1
      injection e1 with e1
      subst e1; subst e3
      refine ⟨by rw [lay.all_len], .inr ⟨g, cap, cur, by rw [htl], hb, hh, by omega, hcm, hcs, ?_⟩⟩
      have h2 : lay.all L = lay.all (L.take p) ++ lay.all (L.drop p) := by rw [← lay.all_append, List.take_append_drop]
      have h3 : (lay.all (L.take p)).length = p * 3 := by rw [lay.all_len, htl]; rfl
      have h4 : cur.toList.take (p * 3) = (cur.toList.take (L.length * 3)).take (p * 3) := by
        rw [List.take_take, Nat.min_eq_left (Nat.mul_le_mul_right _ (by omega))]
      have ht : cur.toList.take (L.length * 3) = lay.all L := ht
      show cur.toList.take ((L.take p).length * 3) = lay.all (L.take p)
      rw [htl, h4, ht, h2, List.take_append_of_le_length (by rw [h3]; exact Nat.le_refl _), List.take_of_length_le (by rw [h3]; exact Nat.le_refl _)])
  have HI := Lib.hid (show CI lay w.drew (some ⟨g, o, none⟩) c (L.drop (p + 1)) from by
    by_cases h0 : 0 < r
    · obtain ⟨pp, cc, e, h⟩ := ho.form
      injection e with e1 e2 e3
      subst e1; subst e3
      have h2 := CI.sub h (p + 1) r c (by omega) (by omega) (by unfold maxLen; omega)
      rw [List.take_of_length_le (by omega), Nat.zero_add] at h2
      rw [b3 h0]
      exact h2
    · rw [List.drop_eq_nil_of_le (by omega)]
      exact CI.empty _ _ _ _ (by unfold maxLen; omega))
  have HT := Lib.hid htl
  have HD := Lib.hid hdl
  have HJ := Lib.hid (show (L.take p ++ L.drop (p + 1)).length = q by rw [List.length_append, htl, hdl]; omega)
  have t0 : ((p : Int) == (p : Int) + 1) = false := by rw [beq_eq_false_iff_ne]; omega
  have hpq : p + r = q := by omega
  have hqc : q ≤ cap := by omega
  have HQC := Lib.hid (show q + 1 ≤ cap by omega)
  clear ho hn hr b3 b4 htl hdl
  go_enter Try.func19, Try.ntmps19
  go_wp2_with fail
  go_region_law (refine step_fit rfl (.tmp 22) (.tmp 25) rfl base g p cap (L.take p) ⟨g, o, none⟩ c r (L.drop (p + 1)) rfl HC.out rfl HT.out.symm HD.out.symm HI.out q hpq hqc ?_
                 intro w1 hown1 hg1
                 have HOW := Lib.hid hown1
                 have HG1 := Lib.hid hg1
                 clear hown1 hg1)
  all_goals
    obtain ⟨w9, hcl, hown, hg9⟩ := run_clearC tyS w1 base g q cap q q 1 (cap - q) (L.take p ++ L.drop (p + 1)) _ zeroS rfl (by decide) HOW.out (Nat.le_refl _) (by rw [HJ.out]; exact Nat.le_refl _) (by have := HQC.out; omega) (by omega)
    have hcl : ∀ ty, (Builtin.clear_ #[41] ty #[.slice (some ⟨g, q * 3, none⟩) 1 (cap - q)]).run Try.prog w1 = .ok (.tuple #[]) w9 := hcl
    rw [List.take_of_length_le (by rw [HJ.out]; exact Nat.le_refl _)] at hown
    have HOWN := Lib.hid hown
    have HG9 := Lib.hid (gtrans (grown_from HG1.out) hg9)
    clear hown hg9 HC HI
    go_wp2_with fail
    go_ret
    exact ⟨rfl, HOWN.out, HG9.out⟩
end Go.Proofs.Yteggajhpjdidcaa.Retry
