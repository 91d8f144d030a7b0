/- The go-back-N protocol by how many are known, which is next, and what is got. No statement is proved here. -/
import Derived.Test.YthiebkkfgegebaaAbpMath
namespace Go.Proofs.Ythiebkkfgegebaa.GbnMath
open Go.Proofs.Ythiebkkfgegebaa.Fate

/-- Which is sent. -/
def sent (n W k nx : Nat) : Nat := if nx = k + W ∨ nx = n then k else nx
/-- What is got behind a packet. -/
def put (l : List Int) (R s : Nat) (g : List Int) : List Int := if s % R = g.length % R then g ++ [l[s]?.getD 0] else g
/-- By how many more may be known. -/
def far (R k c : Nat) : Nat := (c - k) % R
/-- So many known, this got, after some fates. -/
def run (l : List Int) (W R : Nat) : List Fat → Nat → Nat → List Int → Nat × List Int
  | [], k, _, g => (k, g)
  | f :: fs, k, nx, g =>
    if k = l.length then (k, g)
    else if f.there = true then run l W R fs k (sent l.length W k nx + 1) g
    else if f.back = true then run l W R fs k (sent l.length W k nx + 1) (put l R (sent l.length W k nx) g)
    else if far R k (put l R (sent l.length W k nx) g).length ≤ W ∧ far R k (put l R (sent l.length W k nx) g).length ≤ l.length - k then
      run l W R fs (k + far R k (put l R (sent l.length W k nx) g).length) (max (sent l.length W k nx + 1) (k + far R k (put l R (sent l.length W k nx) g).length)) (put l R (sent l.length W k nx) g)
    else run l W R fs k (sent l.length W k nx + 1) (put l R (sent l.length W k nx) g)
theorem put_yes {l : List Int} {R s : Nat} {g : List Int} (h : s % R = g.length % R) : put l R s g = g ++ [l[s]?.getD 0] := by unfold put; rw [if_pos h]
theorem put_no {l : List Int} {R s : Nat} {g : List Int} (h : s % R ≠ g.length % R) : put l R s g = g := by unfold put; rw [if_neg h]
theorem run_end (l : List Int) (W R : Nat) (fs : List Fat) (k nx : Nat) (g : List Int) (h : k = l.length) : run l W R fs k nx g = (k, g) := by
  cases fs with
  | nil => rfl
  | cons f fs => rw [run, if_pos h]
theorem run_lost {l : List Int} {W R : Nat} {f : Fat} {fs : List Fat} {k nx s : Nat} {g : List Int} (h : k ≠ l.length) (hs : sent l.length W k nx = s) (h1 : f.there = true) : run l W R (f :: fs) k nx g = run l W R fs k (s + 1) g := by
  rw [run, if_neg h, if_pos h1, hs]
theorem run_back {l : List Int} {W R : Nat} {f : Fat} {fs : List Fat} {k nx s : Nat} {g g' : List Int} (h : k ≠ l.length) (hs : sent l.length W k nx = s) (h1 : f.there = false) (h2 : f.back = true) (hp : put l R s g = g') : run l W R (f :: fs) k nx g = run l W R fs k (s + 1) g' := by
  rw [run, if_neg h, if_neg (by rw [h1]; decide), if_pos h2, hs, hp]
theorem run_fine {l : List Int} {W R : Nat} {f : Fat} {fs : List Fat} {k nx s d : Nat} {g g' : List Int} (h : k ≠ l.length) (hs : sent l.length W k nx = s) (h1 : f.there = false) (h2 : f.back = false) (hp : put l R s g = g') (hd : far R k g'.length = d) (hw : d ≤ W) (hn : d ≤ l.length - k) :
    run l W R (f :: fs) k nx g = run l W R fs (k + d) (max (s + 1) (k + d)) g' := by
  rw [run, if_neg h, if_neg (by rw [h1]; decide), if_neg (by rw [h2]; decide), hs, hp, hd, if_pos ⟨hw, hn⟩]
theorem run_far {l : List Int} {W R : Nat} {f : Fat} {fs : List Fat} {k nx s d : Nat} {g g' : List Int} (h : k ≠ l.length) (hs : sent l.length W k nx = s) (h1 : f.there = false) (h2 : f.back = false) (hp : put l R s g = g') (hd : far R k g'.length = d) (hw : ¬ (d ≤ W ∧ d ≤ l.length - k)) :
    run l W R (f :: fs) k nx g = run l W R fs k (s + 1) g' := by
  rw [run, if_neg h, if_neg (by rw [h1]; decide), if_neg (by rw [h2]; decide), hs, hp, hd, if_neg hw]
theorem put_len (l : List Int) (R s : Nat) (g : List Int) : g.length ≤ (put l R s g).length ∧ (put l R s g).length ≤ g.length + 1 := by
  unfold put
  split
  · rw [List.length_append]; exact ⟨Nat.le_add_right _ _, Nat.le_refl _⟩
  · exact ⟨Nat.le_refl _, Nat.le_succ _⟩
theorem sent_lt {n W k nx : Nat} (hk : k < n) (h1 : nx ≤ n) (h2 : nx ≤ k + W) (hW : 1 ≤ W) (h3 : k ≤ nx) : k ≤ sent n W k nx ∧ sent n W k nx < n ∧ sent n W k nx < k + W := by
  unfold sent
  split <;> omega
/-- What is known is at most what there is, whatever the window. -/
theorem run_known (l : List Int) (W R : Nat) : ∀ (fs : List Fat) (k nx : Nat) (g : List Int), k ≤ l.length → (run l W R fs k nx g).1 ≤ l.length
  | [], _, _, _, h => h
  | f :: fs, k, nx, g, h => by
    rw [run]
    by_cases e : k = l.length
    · rw [if_pos e]; exact h
    · rw [if_neg e]
      by_cases e1 : f.there = true
      · rw [if_pos e1]; exact run_known l W R fs _ _ _ h
      · rw [if_neg e1]
        by_cases e2 : f.back = true
        · rw [if_pos e2]; exact run_known l W R fs _ _ _ h
        · rw [if_neg e2]
          split
          · exact run_known l W R fs _ _ _ (by omega)
          · exact run_known l W R fs _ _ _ h
theorem same_of_near {R s c : Nat} (h : s % R = c % R) (h1 : s < c + R) (h2 : c < s + R) : s = c := by
  rcases Nat.lt_or_ge s c with hlt | hge
  · have : (c - s) % R = 0 := by
      have := Nat.sub_mod_eq_zero_of_mod_eq h.symm
      exact this
    rw [Nat.mod_eq_of_lt (by omega)] at this
    omega
  · have : (s - c) % R = 0 := Nat.sub_mod_eq_zero_of_mod_eq h
    rw [Nat.mod_eq_of_lt (by omega)] at this
    omega
/-- With more numbers than the window: what is got is a beginning, no longer than the window behind what is known. -/
theorem run_exact (l : List Int) (W R : Nat) (hW : 1 ≤ W) (hR : W < R) : ∀ (fs : List Fat) (k nx c : Nat), k ≤ l.length → k ≤ nx → nx ≤ l.length → nx ≤ k + W → k ≤ c → c ≤ k + W → c ≤ l.length →
    ∃ K C, run l W R fs k nx (l.take c) = (K, l.take C) ∧ K ≤ C ∧ C ≤ K + W ∧ C ≤ l.length
  | [], k, _, c, _, _, _, _, h5, h6, h7 => ⟨k, c, rfl, h5, h6, h7⟩
  | f :: fs, k, nx, c, h1, h2, h3, h4, h5, h6, h7 => by
    by_cases e : k = l.length
    · exact ⟨k, c, run_end l W R _ k nx _ e, h5, h6, h7⟩
    · obtain ⟨s1, s2, s3⟩ := sent_lt (n := l.length) (W := W) (k := k) (nx := nx) (by omega) h3 h4 hW h2
      obtain ⟨s, hs⟩ : ∃ s, sent l.length W k nx = s := ⟨_, rfl⟩
      rw [hs] at s1 s2 s3
      have hlen : (l.take c).length = c := by rw [List.length_take]; omega
      obtain ⟨c', hp, hc1, hc2⟩ : ∃ c', put l R s (l.take c) = l.take c' ∧ c ≤ c' ∧ c' ≤ k + W ∧ c' ≤ l.length := by
        by_cases hm : s % R = c % R
        · have hsc := same_of_near hm (by omega) (by omega)
          subst hsc
          refine ⟨s + 1, ?_, by omega, by omega, by omega⟩
          rw [put_yes (by rw [hlen]), List.take_add_one, List.getElem?_eq_getElem s2]
          rfl
        · exact ⟨c, put_no (by rw [hlen]; exact hm), by omega, by omega, by omega⟩
      have hlen' : (l.take c').length = c' := by rw [List.length_take]; omega
      cases h8 : f.there with
      | true =>
        rw [run_lost e hs h8]
        exact run_exact l W R hW hR fs k (s + 1) c h1 (by omega) (by omega) (by omega) h5 h6 h7
      | false =>
        cases h9 : f.back with
        | true =>
          rw [run_back e hs h8 h9 hp]
          exact run_exact l W R hW hR fs k (s + 1) c' h1 (by omega) (by omega) (by omega) (by omega) (by omega) (by omega)
        | false =>
          have hd : far R k (l.take c').length = c' - k := by
            unfold far
            rw [hlen', Nat.mod_eq_of_lt (by omega)]
          rw [run_fine e hs h8 h9 hp hd (by omega) (by omega), show k + (c' - k) = c' by omega]
          exact run_exact l W R hW hR fs c' (max (s + 1) c') c' (by omega) (by omega) (by omega) (by omega) (by omega) (by omega) (by omega)
/-- One ahead, two numbers: as by one bit. -/
theorem run_one (l : List Int) : ∀ (fs : List Fat) (k nx c : Nat), k ≤ l.length → k ≤ nx → nx ≤ k + 1 → nx ≤ l.length → k ≤ c → c ≤ k + 1 → c ≤ l.length →
    run l 1 2 fs k nx (l.take c) = ((AbpMath.run l.length fs k c).1, l.take (AbpMath.run l.length fs k c).2)
  | [], _, _, _, _, _, _, _, _, _, _ => rfl
  | f :: fs, k, nx, c, h1, h2, h3, h4, h5, h6, h7 => by
    by_cases e : k = l.length
    · rw [run_end l 1 2 _ k nx _ e, e, AbpMath.run_end]
    · have hs : sent l.length 1 k nx = k := by unfold sent; split <;> omega
      have hlen : (l.take c).length = c := by rw [List.length_take]; omega
      have hp : put l 2 k (l.take c) = l.take (k + 1) := by
        by_cases hc : c = k
        · subst hc
          rw [put_yes (by rw [hlen]), List.take_add_one, List.getElem?_eq_getElem (show c < l.length by omega)]
          rfl
        · obtain rfl : c = k + 1 := by omega
          exact put_no (by rw [hlen]; omega)
      have hlen' : (l.take (k + 1)).length = k + 1 := by rw [List.length_take]; omega
      cases h8 : f.there with
      | true =>
        rw [run_lost e hs h8, AbpMath.run_lost e h8]
        exact run_one l fs k (k + 1) c h1 (by omega) (by omega) (by omega) h5 h6 h7
      | false =>
        cases h9 : f.back with
        | true =>
          rw [run_back e hs h8 h9 hp, AbpMath.run_back e h8 h9]
          exact run_one l fs k (k + 1) (k + 1) h1 (by omega) (by omega) (by omega) (by omega) (by omega) (by omega)
        | false =>
          have hd : far 2 k (l.take (k + 1)).length = 1 := by
            unfold far
            rw [hlen', show k + 1 - k = 1 by omega]
          rw [run_fine e hs h8 h9 hp hd (by omega) (by omega), AbpMath.run_fine e h8 h9, show max (k + 1) (k + 1) = k + 1 by omega]
          exact run_one l fs (k + 1) (k + 1) (k + 1) (by omega) (by omega) (by omega) (by omega) (by omega) (by omega) (by omega)
/-- Where nothing is lost. -/
theorem run_fast (l : List Int) (W R : Nat) (hW : 1 ≤ W) (hR : W < R) : ∀ (fs : List Fat) (k : Nat), (∀ f ∈ fs, f = ⟨false, false⟩) → k ≤ l.length → l.length ≤ k + fs.length →
    run l W R fs k k (l.take k) = (l.length, l)
  | [], k, _, h1, h2 => by
    have hk : k = l.length := by simp at h2; omega
    rw [run_end l W R _ k k _ hk, hk, List.take_of_length_le (Nat.le_refl _)]
  | f :: fs, k, hf, h1, h2 => by
    by_cases e : k = l.length
    · rw [run_end l W R _ k k _ e, e, List.take_of_length_le (Nat.le_refl _)]
    · have hs : sent l.length W k k = k := by unfold sent; split <;> omega
      have hlen : (l.take k).length = k := by rw [List.length_take]; omega
      have hp : put l R k (l.take k) = l.take (k + 1) := by
        rw [put_yes (by rw [hlen]), List.take_add_one, List.getElem?_eq_getElem (show k < l.length by omega)]
        rfl
      have hlen' : (l.take (k + 1)).length = k + 1 := by rw [List.length_take]; omega
      have hff := hf f (List.mem_cons_self ..)
      have hd : far R k (l.take (k + 1)).length = 1 := by
        unfold far
        rw [hlen', show k + 1 - k = 1 by omega, Nat.mod_eq_of_lt (by omega)]
      rw [run_fine e hs (by rw [hff]) (by rw [hff]) hp hd (by omega) (by omega), show max (k + 1) (k + 1) = k + 1 by omega]
      exact run_fast l W R hW hR fs (k + 1) (fun x hx => hf x (List.mem_cons_of_mem _ hx)) (by omega) (by rw [List.length_cons] at h2; omega)
end Go.Proofs.Ythiebkkfgegebaa.GbnMath
