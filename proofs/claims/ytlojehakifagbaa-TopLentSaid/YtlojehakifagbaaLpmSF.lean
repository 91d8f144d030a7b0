/- Package lpm: what Set and Find do to a table, each in one contract. No statement is proved here. -/
import Derived.Test.YtlojehakifagbaaLpmSet0
import Derived.Test.YtlojehakifagbaaLpmSet2
import Derived.Test.YtlojehakifagbaaLpmSet3
import Derived.Test.YtlojehakifagbaaLpmFind
namespace Go.Proofs.Ytlojehakifagbaa.Lpm
open Go.ChangeShapes Go.WideShapes Go.ChangeAt Go.RowKit Go.Sort Go.Proofs.Ytlojehakifagbaa.Kit Go.Proofs.Ytlojehakifagbaa.App Go.Proofs.Ytlojehakifagbaa.Cells Go.Proofs.Ytlojehakifagbaa.Cidr Go.Proofs.Ytlojehakifagbaa.CidrMath Go.Proofs.Ytlojehakifagbaa.RouteMath Go.Proofs.Ytlojehakifagbaa.Route
set_option linter.unusedVariables false
set_option maxRecDepth 20000

instance (l : List Rt) (p : Pfx) : Decidable (Is l p) := match h : l[pos l p]? with
  | none => isFalse (fun ⟨r, hr, _⟩ => by rw [h] at hr; cases hr)
  | some r => if hk : key r = p then isTrue ⟨r, h, hk⟩ else isFalse (fun ⟨s, hs, he⟩ => hk (by rw [h] at hs; rw [Option.some.inj hs]; exact he))
/-- A table as it may be. -/
structure GT (l : List Rt) : Prop where
  sorted : Sorted l
  good : ∀ x ∈ l, CidrMath.Good (key x)
  len : l.length ≤ 32
theorem GT.nil : GT [] := ⟨List.Pairwise.nil, fun x hx => by simp at hx, by simp⟩
/-- What Set answers, and the table behind it. -/
def setC (l : List Rt) (r : Rt) : Int := if code (key r) ≠ 0 then code (key r) else if 0 ≤ r.hop ∧ r.hop ≤ 9 then (if Is l (key r) then 0 else if l.length = 32 then 4 else 0) else 1
def setN (l : List Rt) (r : Rt) : List Rt := if setC l r = 0 then setR l r (decide (Is l (key r))) else l
/-- What Find answers. -/
def fnd (l : List Rt) (a : Int) : Option Rt := if 0 ≤ a ∧ a ≤ 65535 then findR l a.toNat else none
def fndE (l : List Rt) (a : Int) : Int := if 0 ≤ a ∧ a ≤ 65535 then foundE (findR l a.toNat) else 1
theorem set_code {l : List Rt} {r : Rt} (h : setC l r = 0) : code (key r) = 0 ∧ 0 ≤ r.hop ∧ r.hop ≤ 9 ∧ (Is l (key r) ∨ l.length ≠ 32) := by
  unfold setC at h
  by_cases h1 : code (key r) = 0
  · rw [if_neg (by simpa using h1)] at h
    by_cases h2 : 0 ≤ r.hop ∧ r.hop ≤ 9
    · rw [if_pos h2] at h
      refine ⟨h1, h2.1, h2.2, ?_⟩
      by_cases h3 : Is l (key r)
      · exact .inl h3
      · rw [if_neg h3] at h
        exact .inr fun h4 => by rw [if_pos h4] at h; simp at h
    · rw [if_neg h2] at h; simp at h
  · rw [if_pos (by simpa using h1)] at h; exact absurd h h1
theorem GT.set {l : List Rt} (h : GT l) (r : Rt) : GT (setN l r) := by
  unfold setN
  by_cases h0 : setC l r = 0
  · rw [if_pos h0]
    obtain ⟨h1, _, _, h2⟩ := set_code h0
    have hi : decide (Is l (key r)) = true ↔ Is l (key r) := decide_eq_true_iff
    refine ⟨set_sorted h.sorted r _ hi, set_good h.sorted h.good ((good_iff _).1 h1) _ hi, ?_⟩
    rw [set_len l r _ hi]
    have := h.len
    by_cases h3 : Is l (key r)
    · rw [if_pos (by simpa using h3)]; omega
    · rw [if_neg (by simpa using h3)]
      rcases h2 with h2 | h2
      · exact absurd h2 h3
      · omega
  · rw [if_neg h0]; exact h
theorem set_any (g : Nat) (l : List Rt) (r : Rt) (w : World) (hT : Tab w g l) (hG : GT l) :
    Calls Try.prog 7 #[.pointer (some ⟨g, 0, none⟩), .agg #[.int .i64 r.adr, .int .i64 r.len, .int .i64 r.hop]] w fun e w' => e = .returned (er (setC l r)) ∧ Tab w' g (setN l r) ∧ w.grownBy w' (some g) := by
  have same : ∀ w', Below w.heap.size w w' → Tab w' g l ∧ w.grownBy w' (some g) := fun w' hb => ⟨hT.below hb hT.lt, grown_below hb (Nat.le_refl _)⟩
  by_cases h1 : code (key r) = 0
  · by_cases h2 : 0 ≤ r.hop ∧ r.hop ≤ 9
    · by_cases h3 : Is l (key r)
      · have e : setC l r = 0 := by unfold setC; rw [if_neg (by simpa using h1), if_pos h2, if_pos h3]
        have e2 : setN l r = setR l r true := by unfold setN; rw [if_pos e, decide_eq_true h3]
        rw [e, e2]
        exact set_old g l r w hT hG.sorted h1 h2 h3
      · by_cases h4 : l.length = 32
        · have e : setC l r = 4 := by unfold setC; rw [if_neg (by simpa using h1), if_pos h2, if_neg h3, if_pos h4]
          have e2 : setN l r = l := by unfold setN; rw [if_neg (by rw [e]; decide)]
          rw [e, e2]
          exact (set_full g l r w hT hG.sorted h1 h2 h3 h4).mono fun e w' ⟨h5, h6⟩ => ⟨h5, same w' h6⟩
        · have e : setC l r = 0 := by unfold setC; rw [if_neg (by simpa using h1), if_pos h2, if_neg h3, if_neg h4]
          have e2 : setN l r = setR l r false := by unfold setN; rw [if_pos e, decide_eq_false h3]
          rw [e, e2]
          exact set_new g l r w hT hG.sorted h1 h2 h3 (by have := hG.len; omega)
    · have e : setC l r = 1 := by unfold setC; rw [if_neg (by simpa using h1), if_neg h2]
      have e2 : setN l r = l := by unfold setN; rw [if_neg (by rw [e]; decide)]
      rw [e, e2]
      exact (set_hop g r w h1 h2).mono fun e w' ⟨h5, h6⟩ => ⟨h5, same w' h6⟩
  · have e : setC l r = code (key r) := by unfold setC; rw [if_pos (by simpa using h1)]
    have e2 : setN l r = l := by unfold setN; rw [if_neg (by rw [e]; exact h1)]
    rw [e, e2]
    exact (set_bad g r w _ rfl h1).mono fun e w' ⟨h5, h6⟩ => ⟨h5, same w' h6⟩
theorem find_all (g : Nat) (a : Int) (l : List Rt) (w : World) (hT : Tab w g l) (hG : GT l) :
    Calls Try.prog 12 #[.pointer (some ⟨g, 0, none⟩), .int .i64 a] w fun e w' => e = .returned (.tuple #[.int .i64 (foundH (fnd l a)), .int .i64 (foundL (fnd l a)), er (fndE l a)]) ∧ Below w.heap.size w w' := by
  unfold fnd fndE
  by_cases h : 0 ≤ a ∧ a ≤ 65535
  · rw [if_pos h, if_pos h]
    obtain ⟨n, rfl⟩ : ∃ n : Nat, a = (n : Int) := ⟨a.toNat, by omega⟩
    rw [Int.toNat_natCast]
    exact find_any g n l w hT hG.sorted hG.good (by omega) _ rfl
  · rw [if_neg h, if_neg h]
    exact find_out g a w h
end Go.Proofs.Ytlojehakifagbaa.Lpm
