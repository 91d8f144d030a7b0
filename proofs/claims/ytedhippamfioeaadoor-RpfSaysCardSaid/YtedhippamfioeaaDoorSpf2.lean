/- Package spf: nearest. No statement is proved here. -/
import Derived.Test.YtedhippamfioeaaDoorSpf1
namespace Go.Proofs.YtedhippamfioeaaDoor.Spf
open Go.ChangeShapes Go.WideShapes Go.ChangeAt Go.RowKit Go.Proofs.YtedhippamfioeaaDoor.Kit Go.Proofs.YtedhippamfioeaaDoor.App Go.Proofs.YtedhippamfioeaaDoor.Err
set_option linter.unusedVariables false
set_option maxRecDepth 20000
set_option maxHeartbeats 1000000

/-- The nearest one so far: its number or -1, and how far it is. -/
def Nr (f : Nat → Int) (S : Nat → Bool) (i : Nat) (b l : Int) : Prop :=
  (b = -1 ∧ l = 1000 ∧ ∀ k, k < i → S k = false → 1000 ≤ f k) ∨ (∃ u : Nat, u < 8 ∧ b = (u : Int) ∧ S u = false ∧ l = f u ∧ f u < 1000 ∧ ∀ k, k < i → S k = false → f u ≤ f k)
theorem Nr.skip {f : Nat → Int} {S : Nat → Bool} {i : Nat} {b l : Int} (h : Nr f S i b l) (hs : S i = true) : Nr f S (i + 1) b l := by
  rcases h with ⟨h1, h2, h3⟩ | ⟨u, hu, h1, h2, h3, h4, h5⟩
  · refine .inl ⟨h1, h2, fun k hk hS => ?_⟩
    by_cases e : k = i
    · subst e; rw [hs] at hS; cases hS
    · exact h3 k (by omega) hS
  · refine .inr ⟨u, hu, h1, h2, h3, h4, fun k hk hS => ?_⟩
    by_cases e : k = i
    · subst e; rw [hs] at hS; cases hS
    · exact h5 k (by omega) hS
theorem Nr.far {f : Nat → Int} {S : Nat → Bool} {i : Nat} {b l : Int} (h : Nr f S i b l) (hl : l ≤ f i) : Nr f S (i + 1) b l := by
  rcases h with ⟨h1, h2, h3⟩ | ⟨u, hu, h1, h2, h3, h4, h5⟩
  · refine .inl ⟨h1, h2, fun k hk hS => ?_⟩
    by_cases e : k = i
    · subst e; omega
    · exact h3 k (by omega) hS
  · refine .inr ⟨u, hu, h1, h2, h3, h4, fun k hk hS => ?_⟩
    by_cases e : k = i
    · subst e; omega
    · exact h5 k (by omega) hS
theorem Nr.new {f : Nat → Int} {S : Nat → Bool} {i : Nat} {b l : Int} (h : Nr f S i b l) (hi : i < 8) (hs : S i = false) (hl : f i < l) : Nr f S (i + 1) i (f i) := by
  have h10 : f i < 1000 := by
    rcases h with ⟨_, h2, _⟩ | ⟨u, _, _, _, h2, h3, _⟩ <;> omega
  refine .inr ⟨i, hi, rfl, hs, rfl, h10, fun k hk hS => ?_⟩
  by_cases e : k = i
  · subst e; exact Int.le_refl _
  · rcases h with ⟨_, h2, h3⟩ | ⟨u, _, _, _, h2, _, h3⟩
    · have := h3 k (by omega) hS; omega
    · have := h3 k (by omega) hS; omega
theorem nearest_any (f : Nat → Int) (S : Nat → Bool) (w : World) (z : Nat) (hz : w.heap.size = z) :
    Calls Tryd.prog 37 #[.agg (ints8 f).toArray, .agg (bools8 S).toArray] w fun e w' => ∃ b l, e = .returned (.int .i64 b) ∧ Nr f S 8 b l ∧ Below z w w' := by
  have HX := Lib.hid (index_ints f)
  have HZ := Lib.hid hz
  have HB := Lib.hid (show ∀ T, Blk 44 ((w.alloc (.cells T 69)).alloc (.cells (bools8 S).toArray 44)) (z + 1) (bools8 S) from fun T => by
    have h := Blk.new (w.alloc (.cells T 69)) 44 (bools8 S)
    rwa [show (w.alloc (.cells T 69)).heap.size = z + 1 by rw [← hz]; simp] at h)
  have HW := Lib.hid (show ∀ T, Below z w ((w.alloc (.cells T 69)).alloc (.cells (bools8 S).toArray 44)) from fun T => by rw [← hz]; exact balloc (balloc (brefl w) _) _)
  rw [bools8_lit] at HB HW ⊢
  rw [ints8_lit] at HX ⊢
  go_enter Tryd.func37, Tryd.ntmps37
  go_wp2_with fail
  generalize (#[.int .i64 (f 0), .int .i64 (f 1), .int .i64 (f 2), .int .i64 (f 3), .int .i64 (f 4), .int .i64 (f 5), .int .i64 (f 6), .int .i64 (f 7)] : Array Value) = T at HX ⊢
  have HB2 := Lib.hid (HB.out T)
  have HW2 := Lib.hid (HW.out T)
  generalize (w.alloc (.cells T 69)).alloc (.cells #[.bool (S 0), .bool (S 1), .bool (S 2), .bool (S 3), .bool (S 4), .bool (S 5), .bool (S 6), .bool (S 7)] 44) = w1 at HB2 HW2 ⊢
  clear HB HW hz
  go_loopw [5, 6, 10] (fun bv lv iv wr => ∃ (i : Nat) (b l : Int), i ≤ 8 ∧ iv = .int .i64 i ∧ bv = .int .i64 b ∧ lv = .int .i64 l ∧ Hid (Nr f S i b l) ∧ wr = w1) (fun _ _ i _ => 8 - (intOf i).toNat)
  case atStart => exact ⟨0, -1, 1000, Nat.zero_le _, rfl, rfl, rfl, Lib.hid (.inl ⟨rfl, rfl, fun k hk => absurd hk (Nat.not_lt_zero _)⟩), rfl⟩
  case round =>
    obtain ⟨i, b, l, hi, rfl, rfl, rfl, HN, rfl⟩ := hrel
    by_cases hlt : i < 8
    · have t0 : decide ((i : Int) < 8) = true := decide_eq_true (by omega)
      have hlt' : (i : Int) < 8 := by omega
      have hix := HX.out i hlt
      have c0 : wr.cell? ⟨z + 1, i, none⟩ = some (.bool (S i)) := Blk.cell HB2.out i _ (ar_get _ hlt)
      by_cases hS : S i = true
      · have HE := Lib.hid (HN.out.skip hS)
        rw [hS] at c0
        clear hS
        go_wp2_with fail
        go_roundw
        case rel => exact ⟨i + 1, b, l, by omega, by first | rfl | go_num, rfl, rfl, HE, by first | trivial | rfl⟩
        case measure => simp [intOf]; omega
      · have hS : S i = false := by simpa using hS
        rw [hS] at c0
        obtain ⟨x, hx⟩ : ∃ x, f i = x := ⟨_, rfl⟩
        rw [hx] at hix
        by_cases hxl : x < l
        · have t1 : decide (x < l) = true := decide_eq_true hxl
          have HE := Lib.hid (show Nr f S (i + 1) i x from by rw [← hx]; exact HN.out.new hlt hS (by omega))
          clear hS hx hxl
          go_wp2_with fail
          go_roundw
          case rel => exact ⟨i + 1, i, x, by omega, by first | rfl | go_num, rfl, rfl, HE, by first | trivial | rfl⟩
          case measure => simp [intOf]; omega
        · have t1 : decide (x < l) = false := decide_eq_false hxl
          have HE := Lib.hid (HN.out.far (by omega : l ≤ f i))
          clear hS hx hxl
          go_wp2_with fail
          go_roundw
          case rel => exact ⟨i + 1, b, l, by omega, by first | rfl | go_num, rfl, rfl, HE, by first | trivial | rfl⟩
          case measure => simp [intOf]; omega
    · obtain rfl : i = 8 := by omega
      go_wp2_with fail
      go_ret
      exact ⟨b, l, rfl, HN.out, HW2.out⟩
end Go.Proofs.YtedhippamfioeaaDoor.Spf
