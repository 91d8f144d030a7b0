/- Contracts of package cidr: isAddr, size, Check, comprises, halves. No statement is proved here. -/
import Derived.Test.YtlojehakifagbaaPfx0
import Derived.Shelf.SlSortCmp.QuietGrown
import Derived.IntWalk
namespace Go.Proofs.Ytlojehakifagbaa.Cidr
open Go.ChangeShapes Go.WideShapes Go.ChangeAt Go.RowKit Go.Sort Go.Proofs.Ytlojehakifagbaa.Kit Go.Proofs.Ytlojehakifagbaa.App Go.Proofs.Ytlojehakifagbaa.Cells Go.Proofs.Ytlojehakifagbaa.CidrMath
set_option linter.unusedVariables false
set_option maxRecDepth 20000

/-- Some draws, some blocks behind. -/
def Gr (w w' : World) : Prop := ∃ q os, w' = grow (w.drewN q) os
theorem Gr.refl (w : World) : Gr w w := ⟨0, #[], by rw [grow_empty]; rfl⟩
theorem drewN_grow_grow (w : World) (os os' : Array Obj) (n : Nat) : grow ((grow w os).drewN n) os' = grow (w.drewN n) (os ++ os') := by
  show grow (grow (w.drewN n) os) os' = _
  rw [grow_grow]
theorem Gr.trans {a b c : World} (h : Gr a b) (g : Gr b c) : Gr a c := by
  obtain ⟨q, os, rfl⟩ := h
  obtain ⟨q', os', rfl⟩ := g
  exact ⟨q + q', os ++ os', by rw [drewN_grow_grow, World.drewN_drewN]⟩
theorem Gr.below {w w' : World} (h : Gr w w') : Below w.heap.size w w' := by
  obtain ⟨q, os, rfl⟩ := h
  refine ⟨rfl, rfl, rfl, ?_, fun k hk => ?_⟩
  · simp [grow]
  · show (w.heap ++ os)[k]? = w.heap[k]?
    rw [Array.getElem?_append_left hk]
theorem mixed : Try.prog.follows .mixedOrders = true := by kernel_rfl

theorem isAddr_any (n : Int) (w : World) (R : Bool) (h : R = (decide (0 ≤ n) && decide (n ≤ 65535))) : Calls Try.prog 26 #[.int .i64 n] w fun e w' => e = .returned (.bool R) ∧ w' = w := by
  subst h
  by_cases h1 : 0 ≤ n
  · have t1 : decide (0 ≤ n) = true := decide_eq_true h1
    have t2 : decide (n ≥ 0) = true := decide_eq_true h1
    rw [t1, Bool.true_and]
    go_enter Try.func26, Try.ntmps26
    go_wp2
    go_ret
    exact ⟨rfl, rfl⟩
  · have t1 : decide (0 ≤ n) = false := decide_eq_false h1
    have t2 : decide (n ≥ 0) = false := decide_eq_false h1
    rw [t1, Bool.false_and]
    go_enter Try.func26, Try.ntmps26
    go_wp2
    go_ret
    exact ⟨rfl, rfl⟩

set_option maxHeartbeats 1000000 in
theorem size_any (a : Int) (k : Nat) (hk : k ≤ 16) (w : World) (R : Nat) (h0 : R = 2 ^ k) : Calls Try.prog 27 #[.agg #[.int .i64 a, .int .i64 (16 - (k : Int))]] w fun e w' => e = .returned (.int .i64 R) ∧ Gr w w' := by
  have HR := Lib.hid h0
  clear h0
  obtain ⟨l, hl⟩ : ∃ l : Int, 16 - (k : Int) = l := ⟨_, rfl⟩
  rw [hl]
  have h1 : 16 - l = (k : Int) := by omega
  have h2 : IntKind.i64.wrap (k : Int) = (k : Int) := by rw [IntKind.wrap_i64]; omega
  have h3 : 0 ≤ l ∧ l ≤ 16 := by omega
  clear hl
  go_enter Try.func27, Try.ntmps27
  go_wp2_with fail
  go_ret
  refine ⟨?_, 0, _, by rw [alloc_eq_grow]; rfl⟩
  rw [HR.out]
  show Ending.returned (Value.int .i64 (wrap64 (2 ^ k))) = _
  have h4 : (2 : Int) ^ k = ((2 ^ k : Nat) : Int) := by simp
  have h5 : 2 ^ k ≤ 2 ^ 16 := Nat.pow_le_pow_right (by omega) hk
  rw [h4]
  congr 2
  generalize 2 ^ k = m at h5
  unfold wrap64
  omega

/-- An error by its number. -/
def er (r : Int) : Value := if r = 0 then .nilIface else .iface 50 (.int .i64 r)
theorem er_0 : er 0 = .nilIface := rfl
theorem er_1 : er 1 = .iface 50 (.int .i64 1) := rfl
theorem er_3 : er 3 = .iface 50 (.int .i64 3) := rfl
theorem er_4 : er 4 = .iface 50 (.int .i64 4) := rfl
theorem Box.grown {w : World} {g : Nat} {x : Pfx} (h : Box w g x) (n : Nat) (os : Array Obj) : (grow (w.drewN n) os).cell? ⟨g, 0, none⟩ = some (.int .i64 x.adr) ∧ (grow (w.drewN n) os).cell? ⟨g, 1, none⟩ = some (.int .i64 x.len) :=
  ⟨cell_grown h.1 h.2.1 n os, cell_grown h.1 h.2.2 n os⟩

set_option maxHeartbeats 1000000 in
theorem check_any (x : Pfx) (w : World) (R : Int) (hR : R = code x) : Calls Try.prog 16 #[val x] w fun e w' => e = .returned (er R) ∧ Gr w w' := by
  obtain ⟨a, l⟩ := x
  have IA := Lib.hid (fun W => isAddr_any a W)
  show Calls Try.prog 16 #[.agg #[.int .i64 a, .int .i64 l]] w _
  by_cases h1 : 0 ≤ a ∧ a ≤ 65535
  · have b1 : true = (decide (0 ≤ a) && decide (a ≤ 65535)) := by rw [decide_eq_true h1.1, decide_eq_true h1.2]; rfl
    have IT := Lib.hid (fun W => IA.out W true b1)
    clear b1
    by_cases h2 : l < 0
    · have hc : R = 1 := by rw [hR]; unfold code; rw [if_neg (by simp only; omega)]
      clear hR IA
      subst hc
      rw [er_1]
      have t1 : decide (l < 0) = true := decide_eq_true h2
      go_enter Try.func16, Try.ntmps16
      go_wp2_with fail
      refine (IT.out _).mono ?_; rintro e w1 ⟨rfl, rfl⟩
      go_wp2_with fail
      go_ret
      exact ⟨rfl, 0, _, by rw [alloc_eq_grow]; rfl⟩
    · have t1 : decide (l < 0) = false := decide_eq_false h2
      by_cases h3 : 16 < l
      · have hc : R = 1 := by rw [hR]; unfold code; rw [if_neg (by simp only; omega)]
        clear hR IA
        subst hc
        rw [er_1]
        have t2 : decide (l > 16) = true := decide_eq_true h3
        go_enter Try.func16, Try.ntmps16
        go_wp2_with fail
        refine (IT.out _).mono ?_; rintro e w1 ⟨rfl, rfl⟩
        go_wp2_with fail
        go_ret
        exact ⟨rfl, 0, _, by rw [alloc_eq_grow]; rfl⟩
      · have t2 : decide (l > 16) = false := decide_eq_false (by omega)
        obtain ⟨k, hk⟩ : ∃ k : Nat, (k : Int) = 16 - l := ⟨(16 - l).toNat, by omega⟩
        have hk16 : k ≤ 16 := by omega
        have hl : l = 16 - (k : Int) := by omega
        have hz : siz ⟨a, l⟩ = 2 ^ k := by rw [hl]; exact siz_blk 0 k
        obtain ⟨z, hzz⟩ : ∃ z, 2 ^ k = z := ⟨_, rfl⟩
        have hz2 : z ≤ 65536 := by rw [← hzz]; exact Nat.le_trans (Nat.pow_le_pow_right (by omega) hk16) (by omega)
        have hz1 : 0 < z := by rw [← hzz]; exact pow_pos' k
        have hc : R = if a % (z : Int) = 0 then 0 else 3 := by rw [hR]; unfold code; rw [if_pos (by simp only; omega), hz, hzz]
        have SZ := Lib.hid (fun W => size_any a k hk16 W z hzz.symm)
        rw [← hl] at SZ
        have HC := Lib.hid hc
        clear hR IA hc hz hzz hl hk
        have B0 := Box.new w ⟨a, l⟩ 34
        simp only at B0
        have g0 := fun n os => (Box.grown B0 n os).1
        have g1 := fun n os => (Box.grown B0 n os).2
        simp only at g0 g1
        have hcg := fun n os => SZ.out (grow ((w.alloc (.cells #[.int .i64 a, .int .i64 l] 34)).drewN n) os)
        have hne : (z : Int) ≠ 0 := by omega
        have hne9 : z ≠ 0 := by omega
        have hm : a.tmod (z : Int) = a % (z : Int) := by rw [Int.tmod_eq_emod_of_nonneg (by omega)]
        obtain ⟨m, hmm⟩ : ∃ m, a % (z : Int) = m := ⟨_, rfl⟩
        rw [hmm] at hm HC
        have hm0 : 0 ≤ m := by rw [← hmm]; exact Int.emod_nonneg _ hne
        have hm1 : m < 65536 := by rw [← hmm]; have := Int.emod_lt_of_pos a (show (0 : Int) < z by omega); omega
        have hmix := mixed
        clear B0 hmm
        by_cases hm9 : m = 0
        · subst hm9
          have hc : R = 0 := by rw [HC.out, if_pos rfl]
          clear HC
          subst hc
          rw [er_0]
          go_enter Try.func16, Try.ntmps16
          go_wp2_with fail
          refine (IT.out _).mono ?_; rintro e w1 ⟨rfl, rfl⟩
          go_wp2_with fail
          go_quiet_grown (refine Calls.grown_of (hcg _ _))
          go_wp2_with fail
          go_ret
          exact ⟨rfl, _, _, by rw [alloc_eq_grow, drewN_grow_grow]⟩
        · have hc : R = 3 := by rw [HC.out, if_neg hm9]
          clear HC
          subst hc
          rw [er_3]
          have t9 : (m != 0) = true := by simpa using hm9
          go_enter Try.func16, Try.ntmps16
          go_wp2_with fail
          refine (IT.out _).mono ?_; rintro e w1 ⟨rfl, rfl⟩
          go_wp2_with fail
          go_quiet_grown (refine Calls.grown_of (hcg _ _))
          go_wp2_with fail
          go_ret
          exact ⟨rfl, _, _, by rw [alloc_eq_grow, drewN_grow_grow]⟩
  · have hc : R = 1 := by rw [hR]; unfold code; rw [if_neg (by simp only; omega)]
    have b1 : false = (decide (0 ≤ a) && decide (a ≤ 65535)) := by
      by_cases h : 0 ≤ a
      · rw [decide_eq_true h, decide_eq_false (show ¬ a ≤ 65535 by omega)]; rfl
      · rw [decide_eq_false h]; rfl
    have IT := Lib.hid (fun W => IA.out W false b1)
    clear b1
    clear hR IA
    subst hc
    rw [er_1]
    go_enter Try.func16, Try.ntmps16
    go_wp2_with fail
    refine (IT.out _).mono ?_; rintro e w1 ⟨rfl, rfl⟩
    go_wp2_with fail
    go_ret
    exact ⟨rfl, 0, _, by rw [alloc_eq_grow]; rfl⟩

set_option maxHeartbeats 1000000 in
theorem comprises_any (x : Pfx) (k : Nat) (hk : k ≤ 16) (hl : x.len = 16 - (k : Int)) (y : Int) (h0 : 0 ≤ x.adr ∧ x.adr ≤ 65535) (hy : 0 ≤ y ∧ y ≤ 65535) (w : World) (R : Bool) (hR : R = true ↔ x.adr ≤ y ∧ y < x.adr + (2 ^ k : Nat)) :
    Calls Try.prog 30 #[val x, .int .i64 y] w fun e w' => e = .returned (.bool R) ∧ Gr w w' := by
  obtain ⟨a, l⟩ := x
  simp only at hl h0 hR
  show Calls Try.prog 30 #[.agg #[.int .i64 a, .int .i64 l], .int .i64 y] w _
  obtain ⟨z, hzz⟩ : ∃ z, 2 ^ k = z := ⟨_, rfl⟩
  have hz2 : z ≤ 65536 := by rw [← hzz]; exact Nat.le_trans (Nat.pow_le_pow_right (by omega) hk) (by omega)
  have SZ := Lib.hid (fun W => size_any a k hk W z hzz.symm)
  rw [← hl] at SZ
  rw [hzz] at hR
  clear hzz hl
  have B0 := Box.new w ⟨a, l⟩ 34
  simp only at B0
  have g0 := fun n os => (Box.grown B0 n os).1
  have g1 := fun n os => (Box.grown B0 n os).2
  simp only at g0 g1
  have hcg := fun n os => SZ.out (grow ((w.alloc (.cells #[.int .i64 a, .int .i64 l] 34)).drewN n) os)
  have hmix := mixed
  clear B0
  by_cases h1 : a ≤ y
  · have t1 : decide (y ≥ a) = true := decide_eq_true h1
    have t1' : decide (a ≤ y) = true := decide_eq_true h1
    have hwr : IntKind.i64.wrap (y - a) = y - a := by rw [IntKind.wrap_i64]; omega
    by_cases h2 : y - a < z
    · have t2 : decide (y - a < (z : Int)) = true := decide_eq_true h2
      have hc : R = true := hR.2 (by omega)
      clear hR
      subst hc
      go_enter Try.func30, Try.ntmps30
      go_wp2_with fail
      go_quiet_grown (refine Calls.grown_of (hcg _ _))
      go_wp2_with fail
      go_ret
      exact ⟨rfl, _, _, by rw [alloc_eq_grow, drewN_grow_grow]⟩
    · have t2 : decide (y - a < (z : Int)) = false := decide_eq_false h2
      have hc : R = false := by
        cases R
        · rfl
        · have := hR.1 rfl; omega
      clear hR
      subst hc
      go_enter Try.func30, Try.ntmps30
      go_wp2_with fail
      go_quiet_grown (refine Calls.grown_of (hcg _ _))
      go_wp2_with fail
      go_ret
      exact ⟨rfl, _, _, by rw [alloc_eq_grow, drewN_grow_grow]⟩
  · have t1 : decide (y ≥ a) = false := decide_eq_false h1
    have t1' : decide (a ≤ y) = false := decide_eq_false h1
    have hc : R = false := by
      cases R
      · rfl
      · have := hR.1 rfl; omega
    clear hR
    subst hc
    go_enter Try.func30, Try.ntmps30
    go_wp2_with fail
    go_quiet_grown (refine Calls.grown_of (hcg _ _))
    go_wp2_with fail
    go_ret
    exact ⟨rfl, _, _, by rw [alloc_eq_grow, drewN_grow_grow]⟩
end Go.Proofs.Ytlojehakifagbaa.Cidr
