/- What holds of folded curves, of what waits, and how long: the mathematics of the laws. No statement is proved here. -/
import Derived.Test.YtfinfdcpepiadaaCurveMath
namespace Go.Proofs.Ytfinfdcpepiadaa.Curve
set_option linter.unusedVariables false
variable {f g h l : List Int} {t k : Nat} {m x by' : Int}

theorem good_fold (hf : Good f) (hg : Good g) (hn : f.length = g.length) (H : ∀ k, k < f.length → low f g k ≤ 1000) : Good (fold f g) :=
  good_of (by rw [fold_len]; exact hf.pos) (by rw [fold_len]; exact hf.len) (fun k hk => by
    rw [fold_len] at hk
    rw [fold_am hk]
    exact ⟨(low_num hf hg k).1, H k hk⟩) (fun k hk => by
    rw [fold_len] at hk
    exact fold_up hf hg hn hk)

/-- So much more from the beginning. -/
def more (f : List Int) (b : Int) : List Int := f.map (· + b)
theorem more_len {b : Int} : (more f b).length = f.length := by simp [more]
theorem more_am {b : Int} (hk : k < f.length) : am (more f b) k = am f k + b := by
  unfold am more
  rw [List.getElem?_map, am_get hk]; rfl
theorem more_low {b : Int} (ht : t < f.length) : low (more f b) g t = low f g t + b := by
  symm
  refine part_low ⟨?_, fun s hs => ?_⟩
  · obtain ⟨⟨s, hs, h1⟩, _⟩ := low_part f g t
    exact ⟨s, hs, by rw [more_am (by omega), h1]; omega⟩
  · rw [more_am (by omega)]
    have := low_le (f := f) (g := g) (t := t) (s := s) (by omega)
    omega
theorem more_back {b : Int} (hb : 0 ≤ b) (hk : k ≤ f.length) : backTo f g k ≤ backTo (more f b) g k ∧ backTo (more f b) g k ≤ backTo f g k + b := by
  induction k with
  | zero => exact ⟨Int.le_refl _, by show (0 : Int) ≤ 0 + b; omega⟩
  | succ k ih =>
    have := ih (by omega)
    unfold backTo
    rw [more_am (by omega)]
    split <;> split <;> omega
theorem more_bad {b : Int} (hb : 0 ≤ b) (hf : Good f) (hg : Good g) (hn : f.length = g.length) (h2 : two (more f b) g ≠ 0) : 1000 < am (more f b) (f.length - 1) := by
  rcases Int.lt_or_le 1000 (am (more f b) (f.length - 1)) with h3 | h3
  · exact h3
  refine absurd (two_zero.2 ⟨?_, hg, by rw [more_len]; exact hn⟩) h2
  have hp := hf.pos
  refine good_of (by rw [more_len]; exact hp) (by rw [more_len]; exact hf.len) (fun k hk => ?_) (fun k hk => ?_)
  · rw [more_len] at hk
    rw [more_am (by omega)] at h3 ⊢
    have h4 := hf.up k (f.length - 1) (by omega) (by omega)
    have h5 := hf.num k
    omega
  · rw [more_len] at hk
    rw [more_am (by omega), more_am hk]
    have := hf.up k (k + 1) (by omega) hk
    omega

variable {came limit service : List Int}
theorem served_back (hu : under came limit = true) (h1 : came.length = limit.length) (hl : Good limit) (hs : Good service) (h0 : am service 0 = 0) : backTo came (fold came service) came.length ≤ backTo limit service came.length := by
  rcases back_at (f := came) (g := fold came service) (k := came.length) with h2 | ⟨t, ht, h2⟩
  · rw [h2]; exact back_zero
  · rw [h2, fold_am ht]
    obtain ⟨⟨s, hs1, h3⟩, _⟩ := low_part came service t
    have h4 := under_iff.1 hu t ht s hs1
    have h5 := back_le (f := limit) (g := service) (k := came.length) (j := t - s) (by omega)
    omega
theorem served_wait (hu : under came limit = true) (hc : Good came) (h1 : came.length = limit.length) (h2 : came.length = service.length) (hs : Good service) (hl : late limit service came.length = false) (u : Nat) (hu1 : (u : Int) = t + waitTo limit service came.length) (hlt : u < came.length) : am came t ≤ am (fold came service) u := by
  have hw := (wait_num (f := limit) (g := service) (k := came.length)).1
  rw [fold_am hlt]
  obtain ⟨⟨s, hs1, h3⟩, _⟩ := low_part came service u
  rw [h3]
  rcases Nat.lt_or_ge t s with h4 | h4
  · have h5 := hc.up t s (by omega) (by omega)
    have h6 := hs.num (u - s)
    omega
  · have h4' := under_iff.1 hu t (by omega) s h4
    have h5 := late_not.1 hl (t - s) (by omega)
    have h6 := first_at h5
    have h7 := wait_le (f := limit) (g := service) (k := came.length) (j := t - s) (by omega)
    have h8 := hs.up (first service (am limit (t - s))) (u - s) (by omega) (by omega)
    omega
end Go.Proofs.Ytfinfdcpepiadaa.Curve
