/- Package nat, the document's answer: in, At, Port. No statement is proved here. -/
import Derived.Test.YtlojehakifagbaaDoorNatRefSt
import Derived.Test.YtlojehakifagbaaDoorNat1
import Derived.BigQuiet
namespace Go.Proofs.YtlojehakifagbaaDoor.Nat_
open Go.ChangeShapes Go.WideShapes Go.ChangeAt Go.RowKit Go.Proofs.YtlojehakifagbaaDoor.Kit Go.Proofs.YtlojehakifagbaaDoor.App Go.Proofs.YtlojehakifagbaaDoor.Cells Go.Proofs.YtlojehakifagbaaDoor.Err Go.Proofs.YtlojehakifagbaaDoor.MapG
set_option linter.unusedVariables false
set_option maxRecDepth 20000
set_option maxHeartbeats 2000000

theorem rin_any (n a b : Int) (w : World) (R : Bool) (hR : R = (decide (a ≤ n) && decide (n ≤ b))) : Calls Tryd.prog 25 #[.int .i64 n, .int .i64 a, .int .i64 b] w fun e w' => e = .returned (.bool R) ∧ w' = w := by
  subst hR
  by_cases h1 : a ≤ n
  · have t1 : decide (a ≤ n) = true := decide_eq_true h1
    go_enter Tryd.func25, Tryd.ntmps25
    go_wp2_with fail
    go_ret
    exact ⟨by rw [t1]; simp, rfl⟩
  · have t1 : decide (a ≤ n) = false := decide_eq_false h1
    go_enter Tryd.func25, Tryd.ntmps25
    go_wp2_with fail
    go_ret
    exact ⟨rfl, rfl⟩
/-- The cells of places whatever came since. -/
theorem places_both {w : World} {p : Option Addr} {cap : Nat} {l : List Plc} (h : CI lay w p cap l) (hn : 0 < l.length) : ∃ b off, p = some ⟨b, off, none⟩ ∧ ∀ W : World, Below w.heap.size w W → ∀ k x, l[k]? = some x → W.cell? ⟨b, off + k * 2, none⟩ = some (.int .i64 x.adr) ∧ W.cell? ⟨b, off + k * 2 + 1, none⟩ = some (.int .i64 x.prt) := by
  obtain ⟨b, off, e, hb, hc⟩ := h.2.2 hn
  refine ⟨b, off, e, fun W hW k x hx => ⟨?_, ?_⟩⟩
  · exact (hW.cell (p := ⟨b, off + k * 2, none⟩) hb).trans (hc k x hx 0 _ rfl)
  · exact (hW.cell (p := ⟨b, off + k * 2 + 1, none⟩) hb).trans (hc k x hx 1 _ rfl)
def vN1 : Value → Nat
  | .int _ z => z.toNat
  | _ => 0
theorem rat_any (lo ma : Int) (pp pl : Option Addr) (n m cp cl : Nat) (L : List En) (q : Int) (w : World) (hn : n = L.length) (hi : Ints w pp cp (L.map Prod.fst)) :
    Calls Tryd.prog 20 #[.agg #[.int .i64 lo, .int .i64 ma, .slice pp n cp, .slice pl m cl], .int .i64 q] w fun e w' => e = .returned (.int .i64 (idx L q)) ∧ Below w.heap.size w w' := by
  have hlen := hi.len_le
  rw [List.length_map, ← hn] at hlen
  have HB := Lib.hid (Blk.new w 45 [.int .i64 lo, .int .i64 ma, .slice pp n cp, .slice pl m cl])
  have HA := Lib.hid (balloc (brefl w) (.cells #[.int .i64 lo, .int .i64 ma, .slice pp n cp, .slice pl m cl] 45))
  have HI := Lib.hid (hi.below HA.out)
  have HN := Lib.hid hn
  have c0 := HB.out.cell 2 _ rfl
  clear hi hn HB
  go_enter Tryd.func20, Tryd.ntmps20
  go_wp2_with fail
  generalize w.alloc (.cells #[.int .i64 lo, .int .i64 ma, .slice pp n cp, .slice pl m cl] 45) = w1 at HA HI c0 ⊢
  generalize w.heap.size = g at c0 ⊢
  go_loopw [5] (fun iv wr => ∃ k : Nat, k ≤ n ∧ iv = .int .i64 (k : Int) ∧ wr = w1 ∧ Hid (∀ y ∈ L.take k, y.1 ≠ q)) (fun i _ => n - vN1 i)
  case atStart => exact ⟨0, Nat.zero_le _, rfl, rfl, Lib.hid (by simp)⟩
  case round =>
    obtain ⟨k, hk, rfl, rfl, HX⟩ := hrel
    by_cases hlt : k < n
    · have u1 : decide ((k : Int) < (n : Int)) = true := decide_eq_true (by omega)
      have hkl : k < L.length := by rw [← HN.out]; exact hlt
      obtain ⟨x, hx⟩ : ∃ x, L[k]? = some x := ⟨_, List.getElem?_eq_getElem hkl⟩
      obtain ⟨b0, off, rfl, _, hc⟩ := HI.out.2.2.2 (by rw [List.length_map]; omega)
      have hc1 := hc k (by rw [List.length_map]; exact hkl)
      rw [fst_at hx] at hc1
      have HT := Lib.hid (take_at hx)
      have HAT := Lib.hid hx
      obtain ⟨x1, x2⟩ := x
      simp only at hc1
      clear hc hkl hx
      by_cases hxa : x1 = q
      · have u2 : (x1 == q) = true := by rw [beq_iff_eq]; exact hxa
        have HF := Lib.hid (idx_at HAT.out hxa HX.out)
        clear hxa
        go_wp2_with fail
        go_ret
        exact ⟨by rw [HF.out]; rfl, HA.out⟩
      · have u2 : (x1 == q) = false := by rw [beq_eq_false_iff_ne]; exact hxa
        have HXA := Lib.hid hxa
        clear hxa
        go_wp2_with fail
        go_roundw
        case rel => exact ⟨k + 1, by omega, by first | rfl | go_num, by first | trivial | rfl, Lib.hid (by
          rw [HT.out]
          intro y hy
          rcases List.mem_append.1 hy with h | h
          · exact HX.out y h
          · simp at h; rw [h]; exact HXA.out)⟩
        case measure => simp [vN1]; omega
    · obtain rfl : k = n := by omega
      have u1 : decide ((k : Int) < (k : Int)) = false := decide_eq_false (by omega)
      have HF := Lib.hid (idx_none (l := L) (a := q) (fun x hx => HX.out x (by rw [List.take_of_length_le (by rw [HN.out]; exact Nat.le_refl _)]; exact hx)))
      go_wp2_with fail
      go_ret
      exact ⟨by rw [HF.out]; rfl, HA.out⟩
theorem rport_any (lo ma : Int) (pp pl : Option Addr) (n m cp cl : Nat) (L : List En) (a c : Int) (w : World) (hn : n = L.length) (hm : m = L.length) (hi : Ints w pp cp (L.map Prod.fst)) (hj : CI lay w pl cl (L.map Prod.snd)) :
    Calls Tryd.prog 26 #[.agg #[.int .i64 lo, .int .i64 ma, .slice pp n cp, .slice pl m cl], .agg #[.int .i64 a, .int .i64 c]] w fun e w' => e = .returned (.int .i64 (pr L ⟨a, c⟩)) ∧ Below w.heap.size w w' := by
  have hgd : Tryd.prog.eqGuardType Tryd.prog.depth 24 = false := by kernel_rfl
  have hmix : Tryd.prog.follows .mixedOrders = true := by kernel_rfl
  have hlen := hi.len_le
  rw [List.length_map, ← hn] at hlen
  have hlen2 := hj.len_le
  rw [List.length_map, ← hm] at hlen2
  have HB := Lib.hid (Blk.new w 45 [.int .i64 lo, .int .i64 ma, .slice pp n cp, .slice pl m cl])
  have HA0 := Lib.hid (balloc (brefl w) (.cells #[.int .i64 lo, .int .i64 ma, .slice pp n cp, .slice pl m cl] 45))
  have hs1 : (w.alloc (.cells #[.int .i64 lo, .int .i64 ma, .slice pp n cp, .slice pl m cl] 45)).heap.size = w.heap.size + 1 := by simp
  have hbx := Box.new (w.alloc (.cells #[.int .i64 lo, .int .i64 ma, .slice pp n cp, .slice pl m cl] 45)) ⟨a, c⟩ 24
  rw [hs1] at hbx
  have HA := Lib.hid (balloc HA0.out (.cells #[.int .i64 a, .int .i64 c] 24))
  have HI := Lib.hid (hi.below HA.out)
  have HJ := Lib.hid (hj.below HA.out)
  have HN := Lib.hid hn
  have HM := Lib.hid hm
  have HB1 := Lib.hid (HB.out.alloc (.cells #[.int .i64 a, .int .i64 c] 24))
  have c2 := HB1.out.cell 2 _ rfl
  have c3 := HB1.out.cell 3 _ rfl
  have c4 := hbx.2.1
  have c5 := hbx.2.2
  clear hi hj hn hm HB HA0 hs1 HB1 hbx
  go_enter Tryd.func26, Tryd.ntmps26
  go_wp2_with fail
  generalize (w.alloc (.cells #[.int .i64 lo, .int .i64 ma, .slice pp n cp, .slice pl m cl] 45)).alloc (.cells #[.int .i64 a, .int .i64 c] 24) = w1 at HA HI HJ c2 c3 c4 c5 ⊢
  generalize w.heap.size = g at c2 c3 c4 c5 ⊢
  go_loopw [5] (fun iv wr => ∃ k d : Nat, k ≤ m ∧ iv = .int .i64 (k : Int) ∧ wr = w1.drewN d ∧ Hid (∀ y ∈ L.take k, y.2 ≠ ⟨a, c⟩)) (fun i _ => m - vN1 i)
  case atStart => exact ⟨0, 0, Nat.zero_le _, rfl, rfl, Lib.hid (by simp)⟩
  case round =>
    obtain ⟨k, d, hk, rfl, rfl, HX⟩ := hrel
    by_cases hlt : k < m
    · have u1 : decide ((k : Int) < (m : Int)) = true := decide_eq_true (by omega)
      have hkl : k < L.length := by rw [← HM.out]; exact hlt
      have hkn : k < n := by rw [HN.out]; exact hkl
      obtain ⟨x, hx⟩ : ∃ x, L[k]? = some x := ⟨_, List.getElem?_eq_getElem hkl⟩
      obtain ⟨b0, off, rfl, _, hc⟩ := HI.out.2.2.2 (by rw [List.length_map]; omega)
      have hc1 := hc k (by rw [List.length_map]; exact hkl)
      rw [fst_at hx] at hc1
      obtain ⟨b2, o2, rfl, hcp⟩ := places_both HJ.out (by rw [List.length_map]; omega)
      obtain ⟨hc2, hc3⟩ := hcp w1 (brefl w1) k x.2 (snd_at hx)
      have HT := Lib.hid (take_at hx)
      have HAT := Lib.hid hx
      obtain ⟨x1, x2, x3⟩ := x
      simp only at hc1 hc2 hc3
      clear hc hkl hx hcp
      by_cases hxa : x2 = a ∧ x3 = c
      · have HF := Lib.hid (pr_at (x := ⟨a, c⟩) HAT.out (by obtain ⟨e1, e2⟩ := hxa; rw [e1, e2]) HX.out)
        obtain ⟨rfl, rfl⟩ := hxa
        have E : ∀ W, (Op.equalIn 10000 24 (.agg #[.int .i64 x2, .int .i64 x3]) (.agg #[.int .i64 x2, .int .i64 x3])).run Tryd.prog W = .ok true W := fun W => by rw [eqX]; simp
        go_wp2_with fail
        go_quiet (fail)
        go_wp2_with fail
        go_ret
        exact ⟨by rw [HF.out]; rfl, bdrewN HA.out _⟩
      · have HXA := Lib.hid hxa
        have E : ∀ W, (Op.equalIn 10000 24 (.agg #[.int .i64 x2, .int .i64 x3]) (.agg #[.int .i64 a, .int .i64 c])).run Tryd.prog W = .ok false W := fun W => by
          rw [eqX]
          have : (x2 == a && x3 == c) = false := by
            rw [Bool.and_eq_false_iff, beq_eq_false_iff_ne, beq_eq_false_iff_ne]
            by_cases e : x2 = a
            · exact .inr (fun e2 => HXA.out ⟨e, e2⟩)
            · exact .inl e
          rw [this]
        clear hxa
        go_wp2_with fail
        go_quiet (fail)
        go_wp2_with fail
        go_roundw
        case rel => exact ⟨k + 1, d + nq, by omega, by first | rfl | go_num, by first | rfl | (simp only [World.drewN]; congr 1; omega), Lib.hid (by
          rw [HT.out]
          intro y hy
          rcases List.mem_append.1 hy with h | h
          · exact HX.out y h
          · simp at h
            rw [h]
            intro e
            injection e with e1 e2
            exact HXA.out ⟨e1, e2⟩)⟩
        case measure => simp [vN1]; omega
    · obtain rfl : k = m := by omega
      have u1 : decide ((k : Int) < (k : Int)) = false := decide_eq_false (by omega)
      have HF := Lib.hid (pr_none (l := L) (x := ⟨a, c⟩) (fun x hx => HX.out x (by rw [List.take_of_length_le (by rw [HM.out]; exact Nat.le_refl _)]; exact hx)))
      go_wp2_with fail
      go_ret
      exact ⟨by rw [HF.out]; rfl, bdrewN HA.out _⟩
end Go.Proofs.YtlojehakifagbaaDoor.Nat_
