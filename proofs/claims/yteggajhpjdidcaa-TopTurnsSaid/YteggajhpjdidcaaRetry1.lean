/- Package retry: window, Window, meet, check; how stations lie in memory. No statement is proved here. -/
import Derived.Test.YteggajhpjdidcaaRetryList
import Derived.Test.YteggajhpjdidcaaCellsRow
import Derived.Test.YteggajhpjdidcaaErr
import Derived.Test.YteggajhpjdidcaaOwnI
import Derived.Test.YteggajhpjdidcaaSub
namespace Go.Proofs.Yteggajhpjdidcaa.Retry
open Go.ChangeShapes Go.WideShapes Go.ChangeAt Go.RowKit Go.Proofs.Yteggajhpjdidcaa.Kit Go.Proofs.Yteggajhpjdidcaa.App Go.Proofs.Yteggajhpjdidcaa.Cells Go.Proofs.Yteggajhpjdidcaa.Err Go.Proofs.Yteggajhpjdidcaa.RetryMath
set_option linter.unusedVariables false
set_option maxRecDepth 20000
set_option maxHeartbeats 1000000

theorem er_ne {c : Int} (h : c ≠ 0) : er c = .iface 48 (.int .i64 c) := by unfold er; rw [if_neg h]
def lay : Lay S := ⟨fun x => [.int .i64 (x.1 : Int), .int .i64 (x.2.1 : Int), .int .i64 (x.2.2 : Int)], 3, by decide, fun _ => rfl, fun x v hv => by
  simp only [List.mem_cons, List.not_mem_nil, or_false] at hv
  rcases hv with rfl | rfl | rfl <;> rfl⟩
theorem tyS : Ty lay 41 45 24 := ⟨Try.underlying41, by
  have h : (Try.prog.info? 45).map (fun i => (i.zero, i.size, i.bytes)) = some (some (.agg #[.int .i64 0, .int .i64 0, .int .i64 0]), 3, 24) := by kernel_rfl
  obtain ⟨i, hi, hz⟩ := Option.map_eq_some_iff.1 h
  simp only [Prod.mk.injEq] at hz
  exact ⟨i, _, hi, hz.1, hz.2.1, hz.2.2, rfl⟩, by decide⟩
theorem zeroS (w : World) : (zeroValue 45).run Try.prog w = .ok (.agg #[.int .i64 0, .int .i64 0, .int .i64 0]) w := by kernel_rfl
abbrev OS (w : World) (base : Nat) (v : Value) (l : List S) : Prop := OC lay 45 w base v l
theorem all_cons (x : S) (l : List S) : lay.all (x :: l) = .int .i64 (x.1 : Int) :: .int .i64 (x.2.1 : Int) :: .int .i64 (x.2.2 : Int) :: lay.all l := rfl
theorem all_set (i : Nat) (v : Value) (hi : i < 3) : ∀ (l : List S) (k : Nat) (x y : S), l[k]? = some x → (lay.enc x).set i v = lay.enc y → (lay.all l).set (k * 3 + i) v = lay.all (l.set k y)
  | [], k, x, y, h, _ => by simp at h
  | z :: l, 0, x, y, h, he => by
    have e : z = x := by simpa using h
    subst e
    have h1 : lay.all (z :: l) = lay.enc z ++ lay.all l := rfl
    have h2 : lay.all (y :: l) = lay.enc y ++ lay.all l := rfl
    rw [List.set_cons_zero, h1, h2, Nat.zero_mul, Nat.zero_add, List.set_append, if_pos (by rw [lay.len]; exact hi), he]
  | z :: l, k + 1, x, y, h, he => by
    have h1 : lay.all (z :: l) = lay.enc z ++ lay.all l := rfl
    have h2 : ∀ t, lay.all (z :: t) = lay.enc z ++ lay.all t := fun _ => rfl
    have h3 : (lay.enc z).length = 3 := lay.len z
    rw [List.set_cons_succ, h1, h2, List.set_append, if_neg (by omega), h3, show (k + 1) * 3 + i - 3 = k * 3 + i by omega, all_set i v hi l k x y (by simpa using h) he]
variable {w w' : World} {base g n cap : Nat} {l : List S}
theorem os_set (i : Nat) (v : Value) (hi : i < 3) (h : OS w base (.slice (some ⟨g, 0, none⟩) n cap) l) (hn : n = l.length) (k : Nat) (x y : S) (hx : l[k]? = some x) (he : (lay.enc x).set i v = lay.enc y) :
    OS (w.setCell ⟨g, k * 3 + i, none⟩ v) base (.slice (some ⟨g, 0, none⟩) n cap) (l.set k y) := by
  subst hn
  have h1 := (World.ownsRow.stored h (k * 3 + i) v).1
  rw [all_set i v hi l k x y hx he] at h1
  unfold OS OC
  rw [List.length_set]
  exact h1
theorem os_at (h : OS w base (.slice (some ⟨g, 0, none⟩) n cap) l) (hn : n = l.length) (k : Nat) (y : S) (hy : l[k]? = some y) :
    w.cell? ⟨g, k * 3, none⟩ = some (.int .i64 (y.1 : Int)) ∧ w.cell? ⟨g, k * 3 + 1, none⟩ = some (.int .i64 (y.2.1 : Int)) ∧ w.cell? ⟨g, k * 3 + 2, none⟩ = some (.int .i64 (y.2.2 : Int)) ∧ ∀ j, w.frozen? ⟨g, j, none⟩ = false := by
  subst hn
  have hk : k < l.length := (List.getElem?_eq_some_iff.1 hy).1
  refine ⟨?_, ?_, ?_, fun j => World.ownsRow.frozenAt h j⟩
  · have := World.ownsRow.cellAt h (k * 3) (show k * 3 < l.length * 3 by omega)
    exact this.trans (lay.all_get l k y hy 0 (by show 0 < 3; omega))
  · have := World.ownsRow.cellAt h (k * 3 + 1) (show k * 3 + 1 < l.length * 3 by omega)
    exact this.trans (lay.all_get l k y hy 1 (by show 1 < 3; omega))
  · have := World.ownsRow.cellAt h (k * 3 + 2) (show k * 3 + 2 < l.length * 3 by omega)
    exact this.trans (lay.all_get l k y hy 2 (by show 2 < 3; omega))
theorem os_caps (h : OS w base (.slice (some ⟨g, 0, none⟩) n cap) l) : n = l.length ∧ n ≤ cap ∧ cap ≤ 9223372036854775807 ∧ base ≤ g ∧ g < w.heap.size := by
  have h5 := h.lt g rfl
  obtain ⟨hl, ⟨e1, _⟩ | ⟨g', cap', cur, e1, hb, hh, hnc, hcm, hcs, ht⟩⟩ := h
  · cases e1
  · injection e1 with e1 e2 e3
    unfold maxLen at hcm
    omega
theorem gtrans {a b c : World} {g : Option Nat} (h : a.grownBy b g) (h2 : b.grownBy c g) : a.grownBy c g :=
  ⟨h2.os.trans h.os, h2.tape.trans h.tape, h2.output.trans h.output, Nat.le_trans h.size h2.size, fun k hk hne => (h2.block k (Nat.lt_of_lt_of_le hk h.size) hne).trans (h.block k hk hne)⟩
theorem gbel {a b : World} {g : Option Nat} (h : Below a.heap.size a b) : a.grownBy b g := ⟨h.os, h.tape, h.output, h.size, fun k hk _ => h.block k hk⟩
/-- What an own slice of the call's later memory grows is no block of before. -/
theorem gnew {a b c : World} {g : Option Nat} {v : Value} (h : a.grownBy b g) (h2 : b.grownBy c v.ownBlock) (hv : ∀ k, v.ownBlock = some k → a.heap.size ≤ k) : a.grownBy c g :=
  ⟨h2.os.trans h.os, h2.tape.trans h.tape, h2.output.trans h.output, Nat.le_trans h.size h2.size, fun k hk hne => (h2.block k (Nat.lt_of_lt_of_le hk h.size) (fun e => by have := hv k e.symm; omega)).trans (h.block k hk hne)⟩

theorem window_any (m : Nat) (w : World) (h : m ≤ 1000000) : Calls Try.prog 21 #[.int .i64 (m : Int)] w fun e w' => e = .returned (.int .i64 ((room m : Nat) : Int)) ∧ w' = w := by
  by_cases h1 : m < 10
  · obtain rfl | rfl | rfl | rfl | rfl | rfl | rfl | rfl | rfl | rfl : m = 0 ∨ m = 1 ∨ m = 2 ∨ m = 3 ∨ m = 4 ∨ m = 5 ∨ m = 6 ∨ m = 7 ∨ m = 8 ∨ m = 9 := by omega
    all_goals
      go_enter Try.func21, Try.ntmps21
      go_wp2_with fail
      go_ret
      exact ⟨rfl, rfl⟩
  · rw [room_top (by omega)]
    have t0 : (if (10 : Int) < (m : Int) then (10 : Int) else (m : Int)) = 10 := by split <;> omega
    go_enter Try.func21, Try.ntmps21
    go_wp2_with fail
    go_ret
    exact ⟨rfl, rfl⟩
end Go.Proofs.Yteggajhpjdidcaa.Retry
