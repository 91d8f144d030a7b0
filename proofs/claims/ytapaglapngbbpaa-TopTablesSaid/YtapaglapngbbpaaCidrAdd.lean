/- The contracts of cidr.halves, cidr.gather and of what it returns. No statement is proved here. -/
import Derived.Test.YtapaglapngbbpaaCidrSort
import Derived.Test.YtapaglapngbbpaaCidrGrow
import Derived.Laws.Bits64
namespace Go.Proofs.Ytapaglapngbbpaa.Cidr
open Go.ChangeShapes Go.WideShapes Go.ChangeAt Go.RowKit Go.Sort Go.Proofs.Ytapaglapngbbpaa.Kit Go.Proofs.Ytapaglapngbbpaa.App Go.Proofs.Ytapaglapngbbpaa.Cells Go.Proofs.Ytapaglapngbbpaa.CidrMath
set_option linter.unusedVariables false
set_option maxRecDepth 20000

theorem bits_xor_i64_nat (a b : Nat) (ha : a < 65536) (hb : b < 65536) : bits .xor .i64 (a : Int) (b : Int) = ((a ^^^ b : Nat) : Int) := by
  have hx : a ^^^ b < 2 ^ 16 := Nat.xor_lt_two_pow (by omega) (by omega)
  have h1 : (BitVec.ofInt 64 (a : Int)).toNat = a := by
    rw [BitVec.ofInt_natCast, BitVec.toNat_ofNat]; exact Nat.mod_eq_of_lt (by omega)
  have h2 : (BitVec.ofInt 64 (b : Int)).toNat = b := by
    rw [BitVec.ofInt_natCast, BitVec.toNat_ofNat]; exact Nat.mod_eq_of_lt (by omega)
  show IntKind.i64.wrap ((BitVec.ofInt 64 (a : Int) ^^^ BitVec.ofInt 64 (b : Int)).toNat : Int) = _
  rw [BitVec.toNat_xor, h1, h2, IntKind.wrap_i64]
  omega
set_option maxHeartbeats 1000000 in
/-- Two prefixes, the one behind the other: are they halves of one? -/
theorem halves_any (x y : Pfx) (hx : CidrMath.Good x) (hy : CidrMath.Good y) (hlt : x.adr + siz x ≤ y.adr) (w : World) (R : Bool) (hR : R = true ↔ Halves x y) :
    Calls Try.prog 33 #[.agg #[.int .i64 x.adr, .int .i64 x.len], .agg #[.int .i64 y.adr, .int .i64 y.len]] w fun e w' => e = .returned (.bool R) ∧ ∃ q os', w' = grow (w.drewN q) os' := by
  obtain ⟨d, j, hj, rfl, hb⟩ := good_mem hx
  obtain ⟨e, i, hi, rfl, hb2⟩ := good_mem hy
  have hpj := pow_pos' j
  have hpi := pow_pos' i
  rw [siz_blk] at hlt
  have hlt' : d * 2 ^ j + 2 ^ j ≤ e * 2 ^ i := by
    have : ((d * 2 ^ j : Nat) : Int) + ((2 ^ j : Nat) : Int) ≤ ((e * 2 ^ i : Nat) : Int) := hlt
    omega
  have SZ := Lib.hid (fun W => size_any ((d * 2 ^ j : Nat) : Int) j hj W _ rfl)
  have hX := bits_xor_i64_nat (d * 2 ^ j) (e * 2 ^ i) (by omega) (by omega)
  unfold blk
  simp only
  have bx := (Box.new w ⟨((d * 2 ^ j : Nat) : Int), 16 - (j : Int)⟩ 24).below (balloc (brefl _) (.cells #[.int .i64 ((e * 2 ^ i : Nat) : Int), .int .i64 (16 - (i : Int))] 24)) (by simp)
  have bx2 := Box.new (w.alloc (.cells #[.int .i64 ((d * 2 ^ j : Nat) : Int), .int .i64 (16 - (j : Int))] 24)) ⟨((e * 2 ^ i : Nat) : Int), 16 - (i : Int)⟩ 24
  simp only [World.size_alloc] at bx bx2
  have gx0 := fun n os => (Box.grown bx n os).1
  have gx1 := fun n os => (Box.grown bx n os).2
  have gy0 := fun n os => (Box.grown bx2 n os).1
  have gy1 := fun n os => (Box.grown bx2 n os).2
  simp only at gx0 gx1 gy0 gy1
  clear bx bx2
  have hmix := mixed
  by_cases hij : i = j
  · subst hij
    have hde : d < e := by
      rcases Nat.lt_or_ge d e with h | h
      · exact h
      · have := Nat.mul_le_mul_right (2 ^ i) h; omega
    rw [halves_iff d e i hde] at hR
    generalize d * 2 ^ i = a at *
    generalize e * 2 ^ i = b at *
    generalize a ^^^ b = r at *
    generalize 2 ^ i = z at *
    obtain ⟨l, hl⟩ : ∃ l : Int, 16 - (i : Int) = l := ⟨_, rfl⟩
    simp only [hl] at SZ gx0 gx1 gy0 gy1 ⊢
    have hcg := fun n os => SZ.out (grow (((w.alloc (.cells #[.int .i64 (a : Int), .int .i64 l] 24)).alloc (.cells #[.int .i64 (b : Int), .int .i64 l] 24)).drewN n) os)
    clear hl SZ hb hb2 hlt hlt' hde hpj hpi hx hy
    have t0 : (l == l) = true := by simp
    cases R with
    | true =>
      have hr : r = z := hR.1 rfl
      subst hr
      have t1 : ((r : Int) == (r : Int)) = true := by simp
      clear hR
      go_enter Try.func33, Try.ntmps33
      go_wp2_with fail
      refine wp_region_quiet_grown (by assumption) (by kernel_rfl) ?_
      repeat (first | go_big_quiet_skip | quiet_step (refine Calls.grown_of (hcg _ _)))
      refine wpQuiet_nil ?_
      intro _ hw'
      obtain ⟨⟨nq, osq⟩, hw''⟩ := hw'
      subst hw''
      go_wp2_with fail
      go_ret
      exact ⟨rfl, _, _, by rw [alloc_eq_grow, alloc_eq_grow, grow_grow, drewN_grow_grow]⟩
    | false =>
      have hr : r ≠ z := fun h => by have := hR.2 h; simp at this
      have t1 : ((r : Int) == (z : Int)) = false := by simp; omega
      clear hR
      go_enter Try.func33, Try.ntmps33
      go_wp2_with fail
      refine wp_region_quiet_grown (by assumption) (by kernel_rfl) ?_
      repeat (first | go_big_quiet_skip | quiet_step (refine Calls.grown_of (hcg _ _)))
      refine wpQuiet_nil ?_
      intro _ hw'
      obtain ⟨⟨nq, osq⟩, hw''⟩ := hw'
      subst hw''
      go_wp2_with fail
      go_ret
      exact ⟨rfl, _, _, by rw [alloc_eq_grow, alloc_eq_grow, grow_grow, drewN_grow_grow]⟩
  · have hRf : R = false := by
      cases R
      · rfl
      · have h := (hR.1 rfl).1
        have : (16 : Int) - (j : Int) = 16 - (i : Int) := h
        omega
    subst hRf
    generalize d * 2 ^ j = a at *
    generalize e * 2 ^ i = b at *
    obtain ⟨l, hl⟩ : ∃ l : Int, 16 - (i : Int) = l := ⟨_, rfl⟩
    obtain ⟨m, hm⟩ : ∃ l : Int, 16 - (j : Int) = l := ⟨_, rfl⟩
    simp only [hl, hm] at gx0 gx1 gy0 gy1 ⊢
    have t0 : (m == l) = false := by simp; omega
    have t0' : decide (m = l) = false := decide_eq_false (by omega)
    have t0'' : ¬ m = l := by omega
    clear hl hm SZ hb hb2 hlt hlt' hpj hpi hx hy hR hX
    go_enter Try.func33, Try.ntmps33
    go_wp2_with fail
    refine wp_region_quiet_grown (by assumption) (by kernel_rfl) ?_
    repeat (first | go_big_quiet_skip | quiet_step (fail))
    refine wpQuiet_nil ?_
    intro _ hw'
    obtain ⟨⟨nq, osq⟩, hw''⟩ := hw'
    subst hw''
    go_wp2_with fail
    go_ret
    exact ⟨rfl, _, _, by rw [alloc_eq_grow, alloc_eq_grow, grow_grow, drewN_grow_grow]⟩
end Go.Proofs.Ytapaglapngbbpaa.Cidr
