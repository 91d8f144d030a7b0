/- A route of one address set, and found again; ports lent one after another. No statement is proved here. -/
import Derived.Test.YtlojehakifagbaaLpmSF
import Derived.Test.YtlojehakifagbaaNatOut
namespace Go.Proofs.Ytlojehakifagbaa.TopLentL
open Go.ChangeShapes Go.WideShapes Go.ChangeAt Go.RowKit Go.Proofs.Ytlojehakifagbaa.Kit Go.Proofs.Ytlojehakifagbaa.App Go.Proofs.Ytlojehakifagbaa.Cells Go.Proofs.Ytlojehakifagbaa.CidrMath Go.Proofs.Ytlojehakifagbaa.RouteMath Go.Proofs.Ytlojehakifagbaa.Lpm
set_option linter.unusedVariables false
set_option maxRecDepth 20000

theorem setC_ok {t : List Rt} {r : Rt} (hk : code (key r) = 0) (hh : 0 ≤ r.hop ∧ r.hop ≤ 9) (hl : t.length < 32) : setC t r = 0 := by
  unfold setC
  rw [if_neg (by simpa using hk), if_pos hh]
  split
  · rfl
  · rw [if_neg (by omega)]
theorem setC_hop {t : List Rt} {r : Rt} (hk : code (key r) = 0) (hh : ¬ (0 ≤ r.hop ∧ r.hop ≤ 9)) : setC t r = 1 := by
  unfold setC
  rw [if_neg (by simpa using hk), if_neg hh]
theorem code16 {a : Int} (ha : 0 ≤ a ∧ a ≤ 65535) (hop : Int) : code (key ⟨a, 16, hop⟩) = 0 := by
  have hs : siz (key ⟨a, 16, hop⟩) = 1 := rfl
  unfold code
  rw [hs, if_pos ⟨ha.1, ha.2, by show (0 : Int) ≤ 16; decide, by show (16 : Int) ≤ 16; decide⟩, if_pos (by simp)]
theorem setN_len {t : List Rt} {r : Rt} (h0 : setC t r = 0) : (setN t r).length ≤ t.length + 1 := by
  unfold setN
  rw [if_pos h0, set_len _ _ _ decide_eq_true_iff]
  split <;> omega
theorem found {t : List Rt} (G : GT t) {a : Int} (ha : 0 ≤ a ∧ a ≤ 65535) {hop : Int} (h0 : setC t ⟨a, 16, hop⟩ = 0) :
    fnd (setN t ⟨a, 16, hop⟩) a = some ⟨a, 16, hop⟩ ∧ fndE (setN t ⟨a, 16, hop⟩) a = 0 := by
  have G2 := G.set ⟨a, 16, hop⟩
  obtain ⟨b, rfl⟩ : ∃ b : Nat, a = b := ⟨a.toNat, by omega⟩
  have hm : (⟨(b : Int), 16, hop⟩ : Rt) ∈ setN t ⟨(b : Int), 16, hop⟩ := by
    unfold setN
    rw [if_pos h0]
    exact (set_mem G.sorted ⟨(b : Int), 16, hop⟩ _ decide_eq_true_iff _).2 (.inl rfl)
  have hh : CidrMath.has (key ⟨(b : Int), 16, hop⟩) b := by
    have hs : siz (key ⟨(b : Int), 16, hop⟩) = 1 := rfl
    unfold CidrMath.has
    rw [hs]
    show (b : Int) ≤ b ∧ (b : Int) < b + 1
    omega
  have e : findR (setN t ⟨(b : Int), 16, hop⟩) b = some ⟨(b : Int), 16, hop⟩ :=
    find_top G2.sorted G2.good ⟨hm, hh, fun y hy _ => (good_len (G2.good y hy)).2⟩
  unfold fnd fndE
  rw [if_pos ha, if_pos ha, Int.toNat_natCast, e]
  exact ⟨rfl, rfl⟩
open Go.Proofs.Ytlojehakifagbaa.Nat_ Go.Proofs.Ytlojehakifagbaa.MapG
/-- Ports lent one after another, none dropped. -/
theorem few_step {h h' : Int → Option Plc} {x : Plc} {port c : Int} {k : Nat} (H : ∀ q, h q ≠ none → q < 1000 + k) (hk : k < 30) (hx : Nat_.good x) (A : OutR 1000 30 h x port c h') :
    c = 0 ∧ h' port = some x ∧ ∀ q, h' q ≠ none → q < 1000 + (k + 1 : Nat) := by
  have hfree : h ((1000 : Int) + k) = none := by
    cases e : h ((1000 : Int) + k) with
    | none => rfl
    | some y =>
      have := H ((1000 : Int) + k) (by rw [e]; simp)
      omega
  rcases A with ⟨a1, a2, a3, a4⟩ | ⟨a1, a2, a3, a4⟩ | ⟨a1, a2, a3, a4, a5, a6, a7⟩ | ⟨a1, a2, a3, a4, a5, a6⟩
  · exact absurd hx a1
  · exact ⟨a3, by rw [a4]; exact a2, fun q hq => by rw [a4] at hq; have := H q hq; omega⟩
  · refine ⟨a6, by rw [a7, upd_same], fun q hq => ?_⟩
    by_cases e : q = port
    · rcases Int.lt_or_le ((1000 : Int) + k) port with h1 | h1
      · exact absurd hfree (a5 _ (by show ((1000 : Nat) : Int) ≤ _; omega) h1)
      · omega
    · rw [a7, upd_other _ _ e] at hq
      have := H q hq
      omega
  · exact absurd hfree (a3 _ (by show ((1000 : Nat) : Int) ≤ _; omega) (by show _ < ((1000 : Nat) : Int) + ((30 : Nat) : Int); omega))
end Go.Proofs.Ytlojehakifagbaa.TopLentL
