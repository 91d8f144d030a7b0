/- The document's way to find the next packet: the mathematics. No statement is proved here. -/
import Derived.Test.YtmjkjkiogkmmpaaDoorRoundsMath
import Derived.Test.YtmjkjkiogkmmpaaDoorDrrFair
namespace Go.Proofs.YtmjkjkiogkmmpaaDoor.Rounds
open Go.Proofs.YtmjkjkiogkmmpaaDoor.Drr
set_option linter.unusedVariables false

/-- A queue that has something left. -/
def Cand (ls : List (List Int)) (o : List Int) (k : Nat) : Prop := o.count (k : Int) < (row ls k).length
theorem val_of {ls : List (List Int)} {o : List Int} {k : Nat} (h : Cand ls o k) : val ls o k = Drr.served ls o k + (row ls k)[o.count (k : Int)]?.getD 0 := by
  unfold val Drr.served
  rw [tot_take_step h]
theorem Cand.lt {ls : List (List Int)} {o : List Int} {k : Nat} (h : Cand ls o k) : k < ls.length := by
  rcases Nat.lt_or_ge k ls.length with h1 | h1
  · exact h1
  · unfold Cand at h
    rw [row_out h1] at h
    simp at h
/-- The least of them. -/
structure Least (ls : List (List Int)) (o : List Int) (z : Nat) : Prop where
  cand : Cand ls o z
  min : ∀ k, Cand ls o k → k ≠ z → val ls o z < val ls o k ∨ val ls o z = val ls o k ∧ z < k
theorem Srt.least {qs : List (List Int)} (hg : Drr.Good qs) {m : List Pk} (h : Srt qs m) {j z : Nat} {p : Pk} (hp : m[j]? = Option.some p) (hz : p.num = (z : Int)) : Least qs ((nums m).take j) z := by
  refine ⟨(h.at hg hp hz).1, fun k hk hne => ?_⟩
  have h1 := h.best hg hp hz k hk hne
  rw [(h.at hg hp hz).2.2] at h1
  exact h1
/-- What is best among the first i. -/
structure Bst (ls : List (List Int)) (o : List Int) (z i : Nat) (bv : Int) : Prop where
  lo : i ≤ z → bv = -1 ∨ ∃ b : Nat, bv = (b : Int) ∧ b < i ∧ Cand ls o b ∧ val ls o z < val ls o b
  hi : z < i → bv = (z : Int)
variable {ls : List (List Int)} {o : List Int} {z i : Nat} {bv : Int}
theorem Bst.start : Bst ls o z 0 (-1) := ⟨fun _ => .inl rfl, fun h => absurd h (Nat.not_lt_zero _)⟩
theorem Bst.skip (H : Bst ls o z i bv) (hl : Least ls o z) (h : ¬ Cand ls o i) : Bst ls o z (i + 1) bv := by
  have hne : i ≠ z := fun e => h (by rw [e]; exact hl.cand)
  refine ⟨fun hi => ?_, fun hi => H.hi (by omega)⟩
  rcases H.lo (by omega) with h1 | ⟨b, h1, h2, h3⟩
  · exact .inl h1
  · exact .inr ⟨b, h1, by omega, h3⟩
theorem Bst.first (H : Bst ls o z i (-1)) (hl : Least ls o z) (h : Cand ls o i) : Bst ls o z (i + 1) (i : Int) := by
  refine ⟨fun hi => .inr ⟨i, rfl, by omega, h, ?_⟩, fun hi => ?_⟩
  · have := hl.min i h (by omega)
    omega
  · by_cases e : i = z
    · rw [e]
    · have := H.hi (by omega)
      omega
theorem Bst.less {b : Nat} (H : Bst ls o z i (b : Int)) (hl : Least ls o z) (h : Cand ls o i) (hv : val ls o i < val ls o b) : Bst ls o z (i + 1) (i : Int) := by
  refine ⟨fun hi => .inr ⟨i, rfl, by omega, h, ?_⟩, fun hi => ?_⟩
  · have := hl.min i h (by omega)
    omega
  · by_cases e : i = z
    · rw [e]
    · have h1 := H.hi (by omega)
      have h2 : b = z := by omega
      subst h2
      have := hl.min i h e
      omega
theorem Bst.more {b : Nat} (H : Bst ls o z i (b : Int)) (hl : Least ls o z) (h : Cand ls o i) (hv : ¬ val ls o i < val ls o b) : Bst ls o z (i + 1) (b : Int) := by
  refine ⟨fun hi => ?_, fun hi => ?_⟩
  · rcases H.lo (by omega) with h1 | ⟨b', h1, h2, h3⟩
    · omega
    · exact .inr ⟨b', h1, by omega, h3⟩
  · by_cases e : i = z
    · exfalso
      subst e
      rcases H.lo (Nat.le_refl _) with h1 | ⟨b', h1, h2, h3, h4⟩
      · omega
      · have : b = b' := by omega
        subst this
        exact hv h4
    · exact H.hi (by omega)
theorem Bst.form (H : Bst ls o z i bv) (hl : Least ls o z) : bv = -1 ∨ ∃ b : Nat, bv = (b : Int) ∧ Cand ls o b := by
  rcases Nat.lt_or_ge z i with h | h
  · exact .inr ⟨z, H.hi h, hl.cand⟩
  · rcases H.lo h with h1 | ⟨b, h1, _, h3, _⟩
    · exact .inl h1
    · exact .inr ⟨b, h1, h3⟩
def rnds (m : List Pk) : List Int := m.map Pk.rnd
theorem rnds_len (m : List Pk) : (rnds m).length = m.length := by simp [rnds]
theorem rnds_get {m : List Pk} {j : Nat} {p : Pk} (h : m[j]? = some p) : (rnds m)[j]?.getD 0 = p.rnd := by
  unfold rnds
  rw [List.getElem?_map, h]; rfl
theorem rnds_step {m : List Pk} {j : Nat} {p : Pk} (hp : m[j]? = some p) : (rnds m).take (j + 1) = (rnds m).take j ++ [p.rnd] := by
  unfold rnds
  rw [List.take_add_one, List.getElem?_map, hp]
  rfl
end Go.Proofs.YtmjkjkiogkmmpaaDoor.Rounds
