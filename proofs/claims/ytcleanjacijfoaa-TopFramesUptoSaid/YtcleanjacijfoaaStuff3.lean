/- Contracts of Flag and cutFlag of package stuff. No statement is proved here. -/
import Derived.Test.YtcleanjacijfoaaStuff2
import Derived.OwnWalk
namespace Go.Proofs.Ytcleanjacijfoaa.Stuff
open Go.ChangeShapes Go.WideShapes Go.ChangeAt Go.RowKit
open Go.Proofs.Ytcleanjacijfoaa.Kit Go.Proofs.Ytcleanjacijfoaa.App Go.Proofs.Ytcleanjacijfoaa.StuffMath
set_option linter.unusedVariables false

theorem lit_ints (w : World) (l : List Int) (h : ∀ x ∈ l, (Lit.int .i64 x).wf = true) (hm : l.length ≤ 700) : Ints (w.alloc (.cells (l.map (Value.int .i64)).toArray 3)) (some ⟨w.heap.size, 0, none⟩) l.length l :=
  ⟨Nat.le_refl _, by simp [maxLen]; omega, fun j => by
    by_cases hj : j < l.length
    · rw [List.getElem?_eq_getElem hj]; exact h _ (List.getElem_mem hj)
    · rw [List.getElem?_eq_none (by omega)]; simp [Lit.wf, IntKind.min, IntKind.max, IntKind.signed, IntKind.bits], fun _ => ⟨w.heap.size, 0, rfl, by simp, fun j hj => by
    have : (w.alloc (.cells (l.map (Value.int .i64)).toArray 3)).heap[w.heap.size]? = some (.cells (l.map (Value.int .i64)).toArray 3) := alloc_new w _
    unfold World.cell?
    rw [this]
    simp [hj]⟩⟩
theorem lit_own (w : World) (l : List Int) (h : ∀ x ∈ l, (Lit.int .i64 x).wf = true) (hm : l.length ≤ 700) : OwnI (w.alloc (.cells (l.map (Value.int .i64)).toArray 3)) w.heap.size (.slice (some ⟨w.heap.size, 0, none⟩) l.length l.length) l :=
  ⟨⟨by simp, .inr ⟨w.heap.size, l.length, (l.map (Value.int .i64)).toArray, rfl, Nat.le_refl _, alloc_new w _, Nat.le_refl _, by unfold maxLen; omega, by simp, by rw [Nat.mul_one, List.take_of_length_le (by simp)]⟩⟩, h⟩

theorem own_mono {w : World} {base base' : Nat} {v : Value} {l : List Int} (h : OwnI w base v l) (hb : base' ≤ base) : OwnI w base' v l := by
  obtain ⟨⟨h1, h2⟩, h3⟩ := h
  refine ⟨⟨h1, ?_⟩, h3⟩
  rcases h2 with h2 | ⟨g, cap, cur, rfl, hg, rest⟩
  · exact .inl h2
  · exact .inr ⟨g, cap, cur, rfl, by omega, rest⟩

theorem flag_any (w : World) :
    Calls Try.prog 16 #[] w fun e w' => e = .returned (.slice (some ⟨w.heap.size, 0, none⟩) 8 8) ∧ OwnI w' w.heap.size (.slice (some ⟨w.heap.size, 0, none⟩) 8 8) flg ∧ Below w.heap.size w w' := by
  have o := lit_own w flg (by decide) (by decide)
  have O := Lib.hid o
  clear o
  go_enter Try.func16, Try.ntmps16
  go_wp2
  go_ret
  exact ⟨rfl, O.out, balloc (brefl w) _⟩
theorem ints_sub {w : World} {b off cap : Nat} {l : List Int} (h : Ints w (some ⟨b, off, none⟩) cap l) (k m c : Nat) (hk : k + m ≤ l.length) (hc : m ≤ c) (hm : c ≤ maxLen) : Ints w (some ⟨b, off + k, none⟩) c ((l.drop k).take m) := by
  have hlen : ((l.drop k).take m).length = m := by rw [List.length_take, List.length_drop]; omega
  refine ⟨by rw [hlen]; exact hc, hm, fun j => ?_, fun hn => ?_⟩
  · by_cases hj : j < m
    · rw [List.getElem?_take, if_pos hj, List.getElem?_drop]; exact h.2.2.1 (k + j)
    · rw [List.getElem?_eq_none (by omega)]; exact wf_zero
  · obtain ⟨b', off', e, hb, hc⟩ := h.2.2.2 (by omega)
    injection e with e
    injection e with e1 e2
    subst e1; subst e2
    refine ⟨b, off + k, rfl, hb, fun j hj => ?_⟩
    have := hc (k + j) (by omega)
    rw [← Nat.add_assoc] at this
    rw [this, List.getElem?_take, if_pos (by omega), List.getElem?_drop]
theorem ints_cut {w : World} {b off cap : Nat} {l : List Int} (h : Ints w (some ⟨b, off, none⟩) cap l) (i : Nat) (hi : i ≤ l.length) (c : Nat) (hc : i ≤ c) (hm : c ≤ maxLen) : Ints w (some ⟨b, off, none⟩) c (l.take i) := by
  have := ints_sub h 0 i c (by omega) hc hm
  simpa using this

theorem ints_none (w : World) (p : Option Addr) (c : Nat) (l : List Int) (hm : c ≤ maxLen) (hl : l = []) : Ints w p c l := by
  subst hl
  exact ⟨Nat.zero_le _, hm, fun j => by simpa using wf_zero, fun h => absurd h (by simp)⟩
theorem take_rest {l : List Int} {i : Nat} (h : i ≤ l.length) : (l.drop i).take (l.length - i) = l.drop i := by
  rw [List.take_of_length_le]; rw [List.length_drop]; omega

theorem cut_spec : ∀ {l : List Int} {i : Nat}, cutAt l = some i → flagAt l i = true ∧ ∀ j : Nat, j < i → flagAt l j = false := by
  intro l
  induction l with
  | nil => intro i h; cases h
  | cons b l ih =>
    intro i h
    unfold cutAt at h
    split at h
    · rename_i hf; injection h with h; subst h; exact ⟨hf, fun j hj => absurd hj (Nat.not_lt_zero _)⟩
    · rename_i hf
      cases hc : cutAt l with
      | none => rw [hc] at h; cases h
      | some k =>
        rw [hc] at h
        have h : k + 1 = i := Option.some.inj h
        subst h
        refine ⟨(ih hc).1, fun j hj => ?_⟩
        cases j with
        | zero => simpa using hf
        | succ j => exact (ih hc).2 j (by omega)
theorem cut_spec_none {l : List Int} (h : cutAt l = none) (j : Nat) : flagAt l j = false := by
  induction l generalizing j with
  | nil => exact flagAt_nil j
  | cons b l ih =>
    unfold cutAt at h
    split at h
    · cases h
    · rename_i hf
      cases hc : cutAt l with
      | some k => rw [hc] at h; cases h
      | none =>
        cases j with
        | zero => simpa using hf
        | succ j => exact ih hc j

set_option maxHeartbeats 1000000 in
theorem cut_yes (p : Option Addr) (cap n : Nat) (l : List Int) (w : World) (hn : n = l.length) (h : Ints w p cap l) (hl : l.length ≤ 1000) (i : Nat) (hi : cutAt l = some i) :
    Calls Try.prog 24 #[.slice p n cap] w fun e w' => ∃ p1 c1 p2 c2, e = .returned (.tuple #[.slice p1 i c1, .slice p2 (l.length - (i + 8)) c2, .bool true]) ∧ (∀ W, Ints W p cap l → Ints W p1 c1 (l.take i) ∧ Ints W p2 c2 (l.drop (i + 8))) ∧ Below w.heap.size w w' := by
  subst hn
  have hlen := h.len_le
  have hi8 := cut_lt hi
  have HS := Lib.hid (cut_spec hi)
  obtain ⟨b, off, rfl, hbw, _⟩ := h.2.2.2 (by omega)
  have hcap := h.1
  have hcapm := h.2.1
  have hcapm' : cap ≤ 9223372036854775807 := by unfold maxLen at hcapm; omega
  clear hi
  go_enter Try.func24, Try.ntmps24
  go_wp2_with fail
  refine (flag_any w).mono ?_; rintro e w1 ⟨rfl, ho, hb1⟩
  obtain ⟨pf, cf, ef, hf⟩ := ho.form
  injection ef with e1 e2 e3
  subst e1; subst e3
  clear e2 ho
  go_wp2_with fail
  go_loopw [15] (fun i0 wr => ∃ k : Nat, k ≤ i ∧ i0 = .int .i64 k ∧ Below w1.heap.size w1 wr) (fun i0 _ => i + 1 - (intOf i0).toNat)
  case atStart => exact ⟨0, Nat.zero_le _, rfl, brefl _⟩
  case round =>
    obtain ⟨k, hk, rfl, hB⟩ := hrel
    have hBw := bcall hb1 hB
    have hwr := h.below hBw
    have hfr := hf.below hB
    have EQ := equal_any (some ⟨b, off + k, none⟩) (some ⟨w.heap.size, 0, none⟩) (cap - k) 8 8 8 ((l.drop k).take 8) flg wr (by rw [List.length_take, List.length_drop]; omega) rfl
      (ints_sub hwr k 8 (cap - k) (by omega) (by omega) (by omega)) hfr (flagAt l k) rfl
    by_cases hlt : k < i
    · rw [HS.out.2 k hlt] at EQ
      have EQ' := Lib.hid EQ
      clear EQ
      go_wp2_with fail
      refine EQ'.out.mono ?_; rintro e w3 ⟨rfl, hb3⟩
      go_wp2_with fail
      go_roundw
      case rel => exact ⟨k + 1, by omega, by go_num, bcall hB hb3⟩
      case measure => simp [intOf]; omega
    · obtain rfl : k = i := by omega
      rw [HS.out.1] at EQ
      have EQ' := Lib.hid EQ
      clear EQ
      go_wp2_with fail
      refine EQ'.out.mono ?_; rintro e w3 ⟨rfl, hb3⟩
      have hB3 := bcall hBw hb3
      have i1 := fun W (hh : Ints W (some ⟨b, off, none⟩) cap l) => ints_cut hh k (by omega) cap (by omega) hcapm
      have i2 := fun W (hh : Ints W (some ⟨b, off, none⟩) cap l) => ints_sub hh (k + 8) (l.length - (k + 8)) (cap - (k + 8)) (by omega) (by omega) (by omega)
      have i3 := fun W (c : Nat) (hc : l.length ≤ k + 8) => ints_none W (some ⟨b, off, none⟩) 0 (l.drop (k + 8)) (by simp [maxLen]) (List.drop_eq_nil_of_le hc)
      rw [take_rest (show k + 8 ≤ l.length by omega)] at i2
      have I1 := Lib.hid i1
      have I2 := Lib.hid i2
      have I3 := Lib.hid i3
      clear i1 i2 i3
      go_wp2_with (go_region)
      · go_ret3
        exact ⟨some ⟨b, off, none⟩, _, some ⟨b, off, none⟩, _, rfl, fun W hh => by
          have e8 : k + 8 = cap := by omega
          have hh' : Ints W (some ⟨b, off, none⟩) cap l := by rw [← e8]; exact hh
          exact ⟨by rw [e8]; exact I1.out W hh', I3.out W 0 (by omega)⟩, hB3.drew⟩
      · go_ret3
        exact ⟨some ⟨b, off, none⟩, _, some ⟨b, off + (k + 8), none⟩, _, rfl, fun W hh => ⟨I1.out W hh, I2.out W hh⟩, hB3.drew⟩

set_option maxHeartbeats 1000000 in
theorem cut_no (p : Option Addr) (cap n : Nat) (l : List Int) (w : World) (hn : n = l.length) (h : Ints w p cap l) (hl : l.length ≤ 1000) (hi : cutAt l = none) :
    Calls Try.prog 24 #[.slice p n cap] w fun e w' => e = .returned (.tuple #[.slice p n cap, .slice none 0 0, .bool false]) ∧ Below w.heap.size w w' := by
  subst hn
  have hlen := h.len_le
  have HS := Lib.hid (fun j => cut_spec_none hi j)
  have hcap := h.1
  have hcapm := h.2.1
  have hcapm' : cap ≤ 9223372036854775807 := by unfold maxLen at hcapm; omega
  clear hi
  go_enter Try.func24, Try.ntmps24
  go_wp2_with fail
  refine (flag_any w).mono ?_; rintro e w1 ⟨rfl, ho, hb1⟩
  obtain ⟨pf, cf, ef, hf⟩ := ho.form
  injection ef with e1 e2 e3
  subst e1; subst e3
  clear e2 ho
  go_wp2_with fail
  go_loopw [15] (fun i0 wr => ∃ k : Nat, k ≤ l.length ∧ i0 = .int .i64 k ∧ Below w1.heap.size w1 wr) (fun i0 _ => l.length + 1 - (intOf i0).toNat)
  case atStart => exact ⟨0, Nat.zero_le _, rfl, brefl _⟩
  case round =>
    obtain ⟨k, hk, rfl, hB⟩ := hrel
    have hBw := bcall hb1 hB
    have hwr := h.below hBw
    have hfr := hf.below hB
    by_cases hlt : k + 8 ≤ l.length
    · obtain ⟨b, off, rfl, hbw, _⟩ := h.2.2.2 (by omega)
      have EQ := equal_any (some ⟨b, off + k, none⟩) (some ⟨w.heap.size, 0, none⟩) (cap - k) 8 8 8 ((l.drop k).take 8) flg wr (by rw [List.length_take, List.length_drop]; omega) rfl
        (ints_sub hwr k 8 (cap - k) (by omega) (by omega) (by omega)) hfr (flagAt l k) rfl
      rw [HS.out k] at EQ
      have EQ' := Lib.hid EQ
      clear EQ
      go_wp2_with fail
      refine EQ'.out.mono ?_; rintro e w3 ⟨rfl, hb3⟩
      go_wp2_with fail
      go_roundw
      case rel => exact ⟨k + 1, by omega, by go_num, bcall hB hb3⟩
      case measure => simp [intOf]; omega
    · go_wp2_with fail
      go_ret3
      exact ⟨rfl, hBw⟩
/-- What cutFlag gives. -/
def Cut (p : Option Addr) (cap : Nat) (l : List Int) (v1 v2 : Value) (f : Bool) : Prop :=
  (cutAt l = none ∧ v1 = .slice p l.length cap ∧ v2 = .slice none 0 0 ∧ f = false) ∨
  ∃ i p1 c1 p2 c2, cutAt l = some i ∧ v1 = .slice p1 i c1 ∧ v2 = .slice p2 (l.length - (i + 8)) c2 ∧ f = true ∧ ∀ W, Ints W p cap l → Ints W p1 c1 (l.take i) ∧ Ints W p2 c2 (l.drop (i + 8))
theorem cut_any (p : Option Addr) (cap n : Nat) (l : List Int) (w : World) (hn : n = l.length) (h : Ints w p cap l) (hl : l.length ≤ 1000) :
    Calls Try.prog 24 #[.slice p n cap] w fun e w' => ∃ v1 v2 f, e = .returned (.tuple #[v1, v2, .bool f]) ∧ Cut p cap l v1 v2 f ∧ Below w.heap.size w w' := by
  cases hc : cutAt l with
  | none =>
    refine (cut_no p cap n l w hn h hl hc).mono ?_
    rintro e w' ⟨rfl, hb⟩
    exact ⟨_, _, _, rfl, .inl ⟨hc, by rw [hn], rfl, rfl⟩, hb⟩
  | some i =>
    refine (cut_yes p cap n l w hn h hl i hc).mono ?_
    rintro e w' ⟨p1, c1, p2, c2, rfl, hi, hb⟩
    exact ⟨_, _, _, rfl, .inr ⟨i, p1, c1, p2, c2, hc, rfl, rfl, rfl, hi⟩, hb⟩
end Go.Proofs.Ytcleanjacijfoaa.Stuff
