/- The parts of a text over a stream, from the last one to the first: the text is read. No statement is proved here. -/
import Derived.Test.YtcleanjacijfoaaMuxLawM
import Derived.Test.YtcleanjacijfoaaPartMath
namespace Go.Proofs.Ytcleanjacijfoaa.Mux
open Go.ChangeShapes Go.WideShapes Go.ChangeAt Go.RowKit Go.Proofs.Ytcleanjacijfoaa.Kit Go.Proofs.Ytcleanjacijfoaa.App Go.Proofs.Ytcleanjacijfoaa.Cells Go.Proofs.Ytcleanjacijfoaa.Err
set_option linter.unusedVariables false
set_option maxRecDepth 20000

theorem parts_at (s : ByteArray) (n k : Nat) (hn : 0 < n) (hk : k ≤ Part.more s n) : ∃ (m : Bool) (e : Nat), (Part.parts s n)[k]? = some ⟨((k * n : Nat) : Int), m, s.extract (k * n) e⟩ ∧ k * n ≤ e ∧ e ≤ s.size ∧ ∀ j, k * n ≤ j → j < s.size → (j < k * n + n ∨ k = Part.more s n) → j < e := by
  have hm := Part.more_le s n hn
  by_cases h : k < Part.more s n
  · have h1 : (k + 1) * n ≤ Part.more s n * n := Nat.mul_le_mul_right _ h
    rw [Nat.add_mul] at h1
    exact ⟨true, k * n + n, Part.parts_get s n k h, by omega, by omega, fun j h2 h3 h4 => by rcases h4 with h4 | h4 <;> omega⟩
  · obtain rfl : k = Part.more s n := by omega
    exact ⟨false, s.size, Part.parts_last s n, hm, Nat.le_refl _, fun j _ h3 _ => h3⟩
/-- The parts from a number on came. -/
structure Tf (s : ByteArray) (n : Nat) (d : Nat → Nat) (j0 : Nat) : Prop where
  okm : Okm d (fun _ => 0)
  so : Some_ d 600 (bl s)
  cov : ∀ k, j0 ≤ k → k ≤ Part.more s n → ∀ j, k * n ≤ j → j < s.size → (j < k * n + n ∨ k = Part.more s n) → d (600 + j) ≠ 0
theorem Tf.start (s : ByteArray) (n : Nat) : Tf s n (fun _ => 0) (Part.more s n + 1) := ⟨Okm.zero, fun j _ => .inl rfl, fun k h1 h2 => by omega⟩
theorem Tf.step {s : ByteArray} {n : Nat} {d : Nat → Nat} {k : Nat} (H : Tf s n d (k + 1)) (hs : s.size ≤ 200) {e : Nat} (h1 : k * n ≤ e) (h2 : e ≤ s.size) (h3 : ∀ j, k * n ≤ j → j < s.size → (j < k * n + n ∨ k = Part.more s n) → j < e) :
    codeM d ⟨3, ((k * n : Nat) : Int), s.extract (k * n) e⟩ = 0 ∧ Tf s n (putM d ⟨3, ((k * n : Nat) : Int), s.extract (k * n) e⟩) k := by
  have hS : isS 3 := ⟨by decide, by decide⟩
  obtain ⟨hc, hp⟩ := piece_put (d := d) (n := 3) (T := s) hS H.so hs h1 h2
  have hp : putM d ⟨3, ((k * n : Nat) : Int), s.extract (k * n) e⟩ = put d (600 + k * n) (piece (bl s) (k * n) e) := hp
  have hl : (bl s).length = s.size := bl_len s
  refine ⟨hc, H.okm.put _, by rw [hp]; exact some_put H.so (by omega) h1 (by omega), fun q hq1 hq2 j hj1 hj2 hj3 => ?_⟩
  rw [hp]
  refine put_there d 600 h1 (by omega) ?_
  by_cases e1 : q = k
  · subst e1
    exact .inl ⟨hj1, h3 j hj1 hj2 hj3⟩
  · exact .inr (H.cov q (by omega) hq2 j hj1 hj2 hj3)
theorem Tf.ends {s : ByteArray} {n : Nat} {d : Nat → Nat} (H : Tf s n d 0) (hn : 0 < n) (hs : s.size ≤ 200) : textM d (fun _ => 0) 3 = s := by
  have hS : isS 3 := ⟨by decide, by decide⟩
  have hl : (bl s).length = s.size := bl_len s
  have hall : ∀ j, j < s.size → d (600 + j) ≠ 0 := fun j hj => by
    have h1 := Nat.div_add_mod j n
    have h2 := Nat.mod_lt j hn
    rw [Nat.mul_comm] at h1
    by_cases h : j / n ≤ Part.more s n
    · exact H.cov (j / n) (Nat.zero_le _) h j (by omega) hj (.inl (by omega))
    · have h3 : Part.more s n * n ≤ j / n * n := Nat.mul_le_mul_right _ (by omega)
      exact H.cov _ (Nat.zero_le _) (Nat.le_refl _) j (by omega) hj (.inr rfl)
  have hf : endM d (fun _ => 0) 3 = s.size := by
    show fin d 600 0 = _
    rw [some_fin H.so (by omega) (Nat.zero_le _) (fun j hj => hall j (by omega)), hl]
  unfold textM
  rw [if_pos hS, hf]
  show txt (said d 600 0 _) = _
  rw [(some_said H.so (Nat.zero_le _) hs (fun j _ hj => hall j hj)).2, ← hl, piece_all, txt_bl]
end Go.Proofs.Ytcleanjacijfoaa.Mux
