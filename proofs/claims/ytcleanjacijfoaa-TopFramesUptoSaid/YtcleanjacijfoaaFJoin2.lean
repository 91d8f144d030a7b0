/- The contracts of values, slices.IndexFunc and slices.ContainsFunc at cells. No statement is proved here. -/
import Derived.Test.YtcleanjacijfoaaFJoin1
namespace Go.Proofs.Ytcleanjacijfoaa.Part
open Go.ChangeShapes Go.WideShapes Go.ChangeAt Go.RowKit Go.Proofs.Ytcleanjacijfoaa.Kit Go.Proofs.Ytcleanjacijfoaa.App Go.Proofs.Ytcleanjacijfoaa.Cells
set_option linter.unusedVariables false
set_option maxRecDepth 20000

theorem asz (w : World) (o : Obj) : (w.alloc o).heap.size = w.heap.size + 1 := by simp
theorem known_any (b : Bool) (z : Int) (w : World) :
    Calls Try.prog 34 #[.agg #[.bool b, .int .u8 z]] w fun e w' => e = .returned (.bool b) ∧ Below w.heap.size w w' := by
  go_enter Try.func34, Try.ntmps34
  go_wp2_with fail
  go_ret
  exact ⟨rfl, balloc (brefl w) _⟩

set_option maxHeartbeats 1000000 in
theorem index_any (g a n c base : Nat) (p : Option Addr) (w : World) (h : Nat → Nat) (H : CH w base g h) (ha : a + n ≤ 200) (hp : 0 < n → p = some ⟨g, a * 2, none⟩) :
    Calls Try.prog 35 #[.slice p n c, .func (.func 34) #[] #[]] w fun e w' => (∃ r : Int, e = .returned (.int .i64 r) ∧ ((0 ≤ r ∧ r ≤ 200) ∨ r = -1) ∧ (0 ≤ r ↔ ∃ i, i < n ∧ h (a + i) ≠ 0)) ∧ Below w.heap.size w w' := by
  have KN := Lib.hid known_any
  have HP := Lib.hid hp
  clear hp
  go_enter Try.func35, Try.ntmps35
  go_wp2_with fail
  go_loopw [8] (fun iv wr => ∃ k : Nat, k ≤ n ∧ iv = .int .i64 k ∧ Below w.heap.size w wr ∧ Hid (∀ i, i < k → h (a + i) = 0)) (fun i _ => n - (intOf i).toNat)
  case atStart => exact ⟨0, Nat.zero_le _, rfl, brefl _, fun i hi => absurd hi (Nat.not_lt_zero _)⟩
  case round =>
    obtain ⟨k, hk, rfl, hB, hz⟩ := hrel
    by_cases hlt : k < n
    · have hpp := HP.out (by omega)
      subst hpp
      have hgs := H.ge
      obtain ⟨e1, e2⟩ := H.cell (a + k) (by omega)
      have e1' := (hB.cell (p := ⟨g, (a + k) * 2, none⟩) hgs.2).trans e1
      have e2' := (hB.cell (p := ⟨g, (a + k) * 2 + 1, none⟩) hgs.2).trans e2
      rw [show (a + k) * 2 = a * 2 + k * 2 by omega] at e1' e2'
      obtain ⟨v, hv⟩ : ∃ v, h (a + k) = v := ⟨_, rfl⟩
      rw [hv] at e1' e2'
      have HV := Lib.hid hv
      clear hv e1 e2
      by_cases hv0 : v = 0
      · subst hv0
        have e3 : wr.cell? ⟨g, a * 2 + k * 2, none⟩ = some (.bool false) := e1'
        clear e1'
        go_wp2_with fail
        refine (KN.out _ _ _).mono ?_; rintro e w1 ⟨rfl, hb1⟩
        have hB1 := bcall hB hb1
        clear hb1
        go_wp2_with fail
        go_roundw
        case rel => exact ⟨k + 1, by omega, by first | rfl | go_num, hB1, fun i hi => by
          by_cases h3 : i = k
          · rw [h3]; exact HV.out
          · exact hz.out i (by omega)⟩
        case measure => simp [intOf]; omega
      · have e3 : wr.cell? ⟨g, a * 2 + k * 2, none⟩ = some (.bool true) := by rw [e1', decide_eq_true hv0]
        clear e1'
        go_wp2_with fail
        refine (KN.out _ _ _).mono ?_; rintro e w1 ⟨rfl, hb1⟩
        have hB1 := bcall hB hb1
        clear hb1
        go_wp2_with fail
        go_ret
        exact ⟨⟨k, rfl, .inl ⟨by omega, by omega⟩, fun _ => ⟨k, hlt, by rw [HV.out]; exact hv0⟩, fun _ => by omega⟩, hB1⟩
    · obtain rfl : k = n := by omega
      go_wp2_with fail
      go_ret
      refine ⟨⟨-1, rfl, .inr rfl, fun h => by omega, ?_⟩, hB⟩
      rintro ⟨i, hi, hne⟩
      exact absurd (hz.out i hi) hne
theorem contains_any (g a n c base : Nat) (p : Option Addr) (w : World) (h : Nat → Nat) (H : CH w base g h) (ha : a + n ≤ 200) (hp : 0 < n → p = some ⟨g, a * 2, none⟩) (R : Bool) (hR : R = true ↔ ∃ i, i < n ∧ h (a + i) ≠ 0) :
    Calls Try.prog 33 #[.slice p n c, .func (.func 34) #[] #[]] w fun e w' => e = .returned (.bool R) ∧ Below w.heap.size w w' := by
  have IX := Lib.hid (index_any g a n c base p w h H ha hp)
  clear H hp
  go_enter Try.func33, Try.ntmps33
  go_wp2_with fail
  refine IX.out.mono ?_; rintro e w1 ⟨⟨r, rfl, hr1, hr2⟩, hb1⟩
  have hRr : R = decide (r ≥ 0) := by
    cases R with
    | true => exact (decide_eq_true (hr2.2 (hR.1 rfl))).symm
    | false => exact (decide_eq_false (fun h => by have := hR.2 (hr2.1 h); cases this)).symm
  clear hr1 hr2 hR IX
  subst hRr
  go_wp2_with fail
  go_ret
  exact ⟨rfl, hb1⟩

def bytesOf (h : Nat → Nat) (n : Nat) : List UInt8 := (List.range n).map fun i => (h i - 1).toUInt8
set_option maxHeartbeats 1000000 in
theorem values_some (g n c base : Nat) (p : Option Addr) (w : World) (h : Nat → Nat) (H : CH w base g h) (ha : n ≤ 200) (hp : 0 < n → p = some ⟨g, 0, none⟩) (hk : ∀ i, i < n → h i ≠ 0) :
    Calls Try.prog 32 #[.slice p n c] w fun e w' => ∃ q cp, e = .returned (.tuple #[.slice q n cp, .bool true]) ∧ CI layB w' q cp (bytesOf h n) ∧ Below w.heap.size w w' := by
  have HP := Lib.hid hp
  have HK := Lib.hid hk
  clear hp hk
  go_enter Try.func32, Try.ntmps32
  go_wp2_with fail
  go_loopw [2, 8] (fun ov iv wr => ∃ (k : Nat) (out : List UInt8), k ≤ n ∧ iv = .int .i64 k ∧ OC layB 5 wr w.heap.size ov out ∧ out.length = k ∧ Below w.heap.size w wr ∧ Hid (out = bytesOf h k)) (fun _ i _ => n - (intOf i).toNat)
  case atStart => exact ⟨0, [], Nat.zero_le _, rfl, OC.nil _ _ _ _, rfl, brefl _, rfl⟩
  case round =>
    obtain ⟨k, out, hk, rfl, hown, hol, hB, HH⟩ := hrel
    by_cases hlt : k < n
    · have hpp := HP.out (by omega)
      subst hpp
      have hgs := H.ge
      obtain ⟨e1, e2⟩ := H.cell k (by omega)
      have e1' := (hB.cell (p := ⟨g, k * 2, none⟩) hgs.2).trans e1
      have e2' := (hB.cell (p := ⟨g, k * 2 + 1, none⟩) hgs.2).trans e2
      have hvb := H.2 k
      have hv0 := HK.out k hlt
      obtain ⟨v, hv⟩ : ∃ v, h k = v := ⟨_, rfl⟩
      rw [hv] at e1' e2' hvb hv0
      have HV := Lib.hid hv
      clear hv e1 e2
      have e3 : wr.cell? ⟨g, k * 2, none⟩ = some (.bool true) := by rw [e1', decide_eq_true hv0]
      clear e1'
      obtain ⟨y, hy⟩ : ∃ y : UInt8, y = (v - 1).toUInt8 := ⟨_, rfl⟩
      have hyv : ((v - 1 : Nat) : Int) = (y.toNat : Int) := by
        rw [hy]
        have : ((v - 1).toUInt8).toNat = v - 1 := by
          show (UInt8.ofNat (v - 1)).toNat = v - 1
          rw [UInt8.toNat_ofNat']; omega
        rw [this]
      rw [hyv] at e2'
      have HY := Lib.hid hy
      have hBs := hB.size
      have hol2 : out.length ≤ 200 := by omega
      clear hy hyv hol hvb hv0
      go_wp2_with (at_builtin
                   refine wp_appC tyB rfl (.tmp 15) (.tmp 18) rfl w.heap.size _ out (some ⟨wr.heap.size + 1, 0, none⟩) 1 1 [y] rfl ((hown.alloc _).alloc _) rfl rfl (by
                     have q := CI.one layB (wr.alloc (.cells #[.bool true, .int .u8 (y.toNat : Int)] 79)) y 5
                     rw [asz] at q
                     exact q) (by rw [List.length_singleton]; omega) (Nat.le_trans hBs (by simp; omega)) ?_
                   intro v1 wa hown1 hg1 hat1
                   have hb1 : Below w.heap.size w wa := below_appC (balloc (balloc hB _) _) ((hown.alloc _).alloc _) hg1 (Nat.le_trans hBs (by simp; omega))
                   clear hat1 hg1)
      go_roundw
      case rel =>
        refine ⟨k + 1, out ++ [y], by omega, by first | rfl | go_num, hown1, ?_, hb1, ?_⟩
        · have := congrArg List.length HH.out
          rw [List.length_append, this]; unfold bytesOf; simp
        · have q := HH.out
          show out ++ [y] = bytesOf h (k + 1)
          unfold bytesOf at q ⊢
          rw [List.range_succ, List.map_append, ← q, List.map_cons, List.map_nil, HV.out, HY.out]
      case measure => simp [intOf]; omega
    · obtain rfl : k = n := by omega
      obtain ⟨q, cp, rfl, hCI⟩ := hown.form
      rw [hol, HH.out] at *
      go_wp2_with fail
      go_ret2
      exact ⟨q, cp, by first | rfl | simp, hCI, hB⟩
set_option maxHeartbeats 1000000 in
theorem values_none (g n c base : Nat) (p : Option Addr) (w : World) (h : Nat → Nat) (H : CH w base g h) (ha : n ≤ 200) (hp : 0 < n → p = some ⟨g, 0, none⟩) (hk : ∃ i, i < n ∧ h i = 0) :
    Calls Try.prog 32 #[.slice p n c] w fun e w' => e = .returned (.tuple #[.slice none 0 0, .bool false]) ∧ Below w.heap.size w w' := by
  have HP := Lib.hid hp
  have HK := Lib.hid hk
  clear hp hk
  go_enter Try.func32, Try.ntmps32
  go_wp2_with fail
  go_loopw [2, 8] (fun ov iv wr => ∃ (k : Nat) (out : List UInt8), k ≤ n ∧ iv = .int .i64 k ∧ OC layB 5 wr w.heap.size ov out ∧ out.length = k ∧ Below w.heap.size w wr ∧ Hid (∀ i, i < k → h i ≠ 0)) (fun _ i _ => n - (intOf i).toNat)
  case atStart => exact ⟨0, [], Nat.zero_le _, rfl, OC.nil _ _ _ _, rfl, brefl _, fun i hi => absurd hi (Nat.not_lt_zero _)⟩
  case round =>
    obtain ⟨k, out, hk, rfl, hown, hol, hB, HH⟩ := hrel
    by_cases hlt : k < n
    · have hpp := HP.out (by omega)
      subst hpp
      have hgs := H.ge
      obtain ⟨e1, e2⟩ := H.cell k (by omega)
      have e1' := (hB.cell (p := ⟨g, k * 2, none⟩) hgs.2).trans e1
      have e2' := (hB.cell (p := ⟨g, k * 2 + 1, none⟩) hgs.2).trans e2
      have hvb := H.2 k
      obtain ⟨v, hv⟩ : ∃ v, h k = v := ⟨_, rfl⟩
      rw [hv] at e1' e2' hvb
      have HV := Lib.hid hv
      clear hv e1 e2
      by_cases hv0 : v = 0
      · subst hv0
        have e3 : wr.cell? ⟨g, k * 2, none⟩ = some (.bool false) := e1'
        clear e1'
        go_wp2_with fail
        go_ret2
        exact ⟨rfl, balloc hB _⟩
      · have e3 : wr.cell? ⟨g, k * 2, none⟩ = some (.bool true) := by rw [e1', decide_eq_true hv0]
        clear e1'
        obtain ⟨y, hy⟩ : ∃ y : UInt8, y = (v - 1).toUInt8 := ⟨_, rfl⟩
        have hyv : ((v - 1 : Nat) : Int) = (y.toNat : Int) := by
          rw [hy]
          have : ((v - 1).toUInt8).toNat = v - 1 := by
            show (UInt8.ofNat (v - 1)).toNat = v - 1
            rw [UInt8.toNat_ofNat']; omega
          rw [this]
        rw [hyv] at e2'
        have hBs := hB.size
        have hol2 : out.length ≤ 200 := by omega
        have HV0 := Lib.hid hv0
        have HOL := Lib.hid hol
        clear hy hyv hol hvb hv0
        go_wp2_with (at_builtin
                     refine wp_appC tyB rfl (.tmp 15) (.tmp 18) rfl w.heap.size _ out (some ⟨wr.heap.size + 1, 0, none⟩) 1 1 [y] rfl ((hown.alloc _).alloc _) rfl rfl (by
                       have q := CI.one layB (wr.alloc (.cells #[.bool true, .int .u8 (y.toNat : Int)] 79)) y 5
                       rw [asz] at q
                       exact q) (by rw [List.length_singleton]; omega) (Nat.le_trans hBs (by simp; omega)) ?_
                     intro v1 wa hown1 hg1 hat1
                     have hb1 : Below w.heap.size w wa := below_appC (balloc (balloc hB _) _) ((hown.alloc _).alloc _) hg1 (Nat.le_trans hBs (by simp; omega))
                     clear hat1 hg1)
        go_roundw
        case rel =>
          refine ⟨k + 1, out ++ [y], by omega, by first | rfl | go_num, hown1, by rw [List.length_append, HOL.out]; rfl, hb1, fun i hi => ?_⟩
          by_cases h3 : i = k
          · rw [h3, HV.out]; exact HV0.out
          · exact HH.out i (by omega)
        case measure => simp [intOf]; omega
    · obtain rfl : k = n := by omega
      obtain ⟨i, hi, h0⟩ := HK.out
      exact absurd h0 (HH.out i hi)
end Go.Proofs.Ytcleanjacijfoaa.Part
