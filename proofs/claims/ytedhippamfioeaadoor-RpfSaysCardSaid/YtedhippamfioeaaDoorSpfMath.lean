/- Shortest paths: the distance between two nodes, the smallest first hop, and Dijkstra's rounds. The mathematics, without the program. No statement is proved here. -/
import Derived.Test.YtedhippamfioeaaDoorVecRefMath
namespace Go.Proofs.YtedhippamfioeaaDoor.Spf
open Go.Proofs.YtedhippamfioeaaDoor.Vector
set_option linter.unusedVariables false

variable {n : Nat} {ls : List Lk}
/-- How far it is between two nodes. -/
abbrev ds (ls : List Lk) (i j : Nat) : Int := D ls 8 i j
theorem ds_sym (g : Vector.Good n ls) (i j : Nat) : ds ls i j = ds ls j i := D_sym g 8 i j
theorem ds_self (g : Vector.Good n ls) (i : Nat) : ds ls i i = 0 := D_self g 8 i
theorem ds_top (g : Vector.Good n ls) (i j : Nat) : ds ls i j ≤ 1000 := D_top (n := n) 8 i j
theorem ds_nat (g : Vector.Good n ls) (i j : Nat) : 0 ≤ ds ls i j := D_nat g 8 i j
theorem ds_pos (g : Vector.Good n ls) {i j : Nat} (h : i ≠ j) : 1 ≤ ds ls i j := D_pos g 8 h
theorem ds_few (g : Vector.Good n ls) (i j : Nat) : ds ls i j = 1000 ∨ ds ls i j ≤ 160 := by
  rcases D_way g 8 i j with h | ⟨m, hm, hw⟩
  · exact .inl h
  · have := hw.cost g
    exact .inr (by show D ls 8 i j ≤ 160; omega)
theorem way_src (g : Vector.Good n ls) {k i j : Nat} {c : Int} (h : Vector.Way ls k i j c) : i = j ∨ i < n := by
  cases h with
  | nil => exact .inl rfl
  | cons e _ => exact .inr (Ed.cost g e).2.2.1
theorem ds_out (g : Vector.Good n ls) {i j : Nat} (hj : n ≤ j) (hij : i ≠ j) : ds ls i j = 1000 := by
  rcases D_way g 8 i j with h | ⟨m, hm, hw⟩
  · exact h
  · rcases way_src g hw.back with e | e
    · exact absurd e.symm hij
    · omega
theorem ds_tri (g : Vector.Good n ls) (i x j : Nat) : ds ls i j ≤ ds ls i x + ds ls x j := by
  have h8 := g.up
  by_cases hj : j < n
  · exact D_tri g hj (by omega)
  · by_cases hij : i = j
    · subst hij
      rw [ds_self g]
      have := ds_nat g i x; have := ds_nat g x i
      omega
    · by_cases hx : x = j
      · subst hx; rw [ds_self g]; omega
      · rw [ds_out g (i := x) (by omega) hx]
        have := ds_top g i j; have := ds_nat g i x
        omega
theorem co_sym (ls : List Lk) (i j : Nat) : co ls i j = co ls j i := by
  have key : ∀ k, cst ls (i : Int) (j : Int) k = cst ls (j : Int) (i : Int) k := fun k => by
    induction k with
    | zero => rfl
    | succ k ih =>
      have hf : fit (lk ls k) (i : Int) (j : Int) ↔ fit (lk ls k) (j : Int) (i : Int) := by unfold fit; omega
      show (if _ then _ else _) = (if _ then _ else _)
      rw [ih]
      simp only [hf]
  exact key _
theorem co_few (g : Vector.Good n ls) {i j : Nat} (h : co ls i j ≠ 1000) : 1 ≤ co ls i j ∧ co ls i j ≤ 20 ∧ i < n ∧ j < n ∧ i ≠ j := by
  rcases co_or g i j with e | e
  · exact absurd e h
  · exact Ed.cost g e
theorem co_self (g : Vector.Good n ls) (i : Nat) : co ls i i = 1000 := by
  by_cases h : co ls i i = 1000
  · exact h
  · exact absurd rfl (co_few g h).2.2.2.2
theorem ds_co (g : Vector.Good n ls) (i j : Nat) : ds ls i j ≤ co ls i j := by
  rcases co_or g i j with e | e
  · rw [e]; exact ds_top g i j
  · exact D_le (Way.one e) 8 (by omega)
/-- Whoever is not there has a neighbour that is nearer. -/
theorem ds_step (g : Vector.Good n ls) {i j : Nat} (hj : j < n) (hij : i ≠ j) (h : ds ls i j ≠ 1000) : ∃ m, co ls i m ≠ 1000 ∧ ds ls i j = co ls i m + ds ls m j := by
  have h8 := g.up
  rcases round_or ls (D ls 7) i j with e | ⟨m, c, he, e⟩
  · exfalso
    have e2 : ds ls i j = un i j := e
    unfold un at e2
    rw [if_neg hij] at e2
    exact h e2
  · have e1 : ds ls i j = c + D ls 7 m j := e
    have e2 : ds ls i j = c + ds ls m j := by rw [e1, D_end g (k := 7) (m := 8) hj (by omega) (by omega)]
    have h1 := co_le g he
    have h2 := ds_tri g i m j
    have h3 := ds_co g i m
    have h4 := (Ed.cost g he).2.1
    exact ⟨m, by omega, by omega⟩
/-- A neighbour over which a shortest path begins. -/
def nb (ls : List Lk) (s t v : Nat) : Prop := co ls s v ≠ 1000 ∧ co ls s v + ds ls v t = ds ls s t
def away (ls : List Lk) (s t : Nat) : Prop := s = t ∨ ds ls s t = 1000
/-- The smallest one. -/
def isHop (ls : List Lk) (s t : Nat) (h : Int) : Prop := (away ls s t ∧ h = -1) ∨ (¬ away ls s t ∧ ∃ v : Nat, h = (v : Int) ∧ nb ls s t v ∧ ∀ u, u < v → ¬ nb ls s t u)
theorem isHop_uniq {s t : Nat} {h h' : Int} (a : isHop ls s t h) (b : isHop ls s t h') : h = h' := by
  rcases a with ⟨a1, rfl⟩ | ⟨a1, v, rfl, a2, a3⟩
  · rcases b with ⟨_, rfl⟩ | ⟨b1, _⟩
    · rfl
    · exact absurd a1 b1
  · rcases b with ⟨b1, _⟩ | ⟨_, u, rfl, b2, b3⟩
    · exact absurd b1 a1
    · rcases Nat.lt_trichotomy u v with h | h | h
      · exact absurd b2 (a3 u h)
      · rw [h]
      · exact absurd a2 (b3 v h)
theorem least {p : Nat → Prop} : ∀ k, p k → ∃ v, v ≤ k ∧ p v ∧ ∀ u, u < v → ¬ p u := by
  intro k
  induction k using Nat.strongRecOn with
  | ind k ih =>
    intro hk
    by_cases h : ∃ u, u < k ∧ p u
    · obtain ⟨u, hu, hp⟩ := h
      obtain ⟨v, hv, h2, h3⟩ := ih u hu hp
      exact ⟨v, by omega, h2, h3⟩
    · exact ⟨k, Nat.le_refl _, hk, fun u hu hp => h ⟨u, hu, hp⟩⟩
theorem isHop_ex (g : Vector.Good n ls) {s t : Nat} (ht : t < n) : ∃ h, isHop ls s t h := by
  by_cases hn : away ls s t
  · exact ⟨-1, .inl ⟨hn, rfl⟩⟩
  · obtain ⟨m, h1, h2⟩ := ds_step g ht (fun e => hn (.inl e)) (fun e => hn (.inr e))
    obtain ⟨v, _, h3, h4⟩ := least (p := nb ls s t) m ⟨h1, h2.symm⟩
    exact ⟨v, .inr ⟨hn, v, rfl, h3, h4⟩⟩
open Classical in
noncomputable def hop (ls : List Lk) (s t : Nat) : Int := if h : ∃ x, isHop ls s t x then Classical.choose h else -1
theorem hop_is (g : Vector.Good n ls) (s t : Nat) : isHop ls s t (hop ls s t) := by
  unfold hop
  by_cases ht : t < n
  · rw [dif_pos (isHop_ex g ht)]
    exact Classical.choose_spec (isHop_ex g ht)
  · have hn : away ls s t := by
      by_cases e : s = t
      · exact .inl e
      · exact .inr (ds_out g (by omega) e)
    have hx : ∃ x, isHop ls s t x := ⟨-1, .inl ⟨hn, rfl⟩⟩
    rw [dif_pos hx]
    exact Classical.choose_spec hx
theorem hop_eq (g : Vector.Good n ls) {s t : Nat} {h : Int} (a : isHop ls s t h) : hop ls s t = h := isHop_uniq (hop_is g s t) a
theorem hop_none (g : Vector.Good n ls) {s t : Nat} (h : away ls s t) : hop ls s t = -1 := hop_eq g (.inl ⟨h, rfl⟩)
theorem hop_some (g : Vector.Good n ls) {s t : Nat} (h : ¬ away ls s t) : ∃ v : Nat, hop ls s t = v ∧ nb ls s t v ∧ (∀ u, u < v → ¬ nb ls s t u) ∧ v < n := by
  rcases hop_is g s t with ⟨h1, _⟩ | ⟨_, v, h1, h2, h3⟩
  · exact absurd h1 h
  · exact ⟨v, h1, h2, h3, (co_few g h2.1).2.2.2.1⟩
theorem hop_b (g : Vector.Good n ls) (s t : Nat) : -1 ≤ hop ls s t ∧ hop ls s t ≤ 7 := by
  by_cases h : away ls s t
  · rw [hop_none g h]; omega
  · obtain ⟨v, h1, _, _, h2⟩ := hop_some g h
    have := g.up
    omega
theorem hop_le (g : Vector.Good n ls) {s t v : Nat} (h : ¬ away ls s t) (hv : nb ls s t v) : hop ls s t ≤ v := by
  obtain ⟨u, h1, _, h3, _⟩ := hop_some g h
  rcases Nat.lt_or_ge v u with e | e
  · exact absurd hv (h3 v e)
  · omega

/-- Distance and first hop as one number: the smaller, the better. -/
noncomputable def Kf (ls : List Lk) (s j : Nat) : Int := 16 * ds ls s j + (hop ls s j + 1)
noncomputable def kc (ls : List Lk) (s v j : Nat) : Int := 16 * (ds ls s v + co ls v j) + (if v = s then (j : Int) + 1 else hop ls s v + 1)
theorem Kf_self (g : Vector.Good n ls) (s : Nat) : Kf ls s s = 0 := by
  unfold Kf
  rw [ds_self g, hop_none g (.inl rfl)]
  omega
theorem Kf_b (g : Vector.Good n ls) (s j : Nat) : 0 ≤ Kf ls s j ∧ Kf ls s j ≤ 16000 := by
  unfold Kf
  have h1 := hop_b g s j
  have h2 := ds_nat g s j
  rcases ds_few g s j with h | h
  · rw [h, hop_none g (.inr h)]; omega
  · omega
theorem Kf_far (g : Vector.Good n ls) (s j : Nat) : Kf ls s j / 16 = ds ls s j ∧ Kf ls s j % 16 - 1 = hop ls s j := by
  unfold Kf
  have := hop_b g s j
  omega
/-- No path is better than the best. -/
theorem sound (g : Vector.Good n ls) {s v j : Nat} (hv : ds ls s v ≠ 1000) (hc : co ls v j ≠ 1000) : Kf ls s j ≤ kc ls s v j := by
  have hb := hop_b g s j
  have hbv := hop_b g s v
  have hco := co_few g hc
  have h8 := g.up
  have htri := ds_tri g s v j
  have hcd := ds_co g v j
  have hsv := ds_nat g s v
  by_cases hjs : j = s
  · subst hjs
    rw [Kf_self g]
    unfold kc
    split <;> omega
  unfold Kf kc
  rcases Int.lt_or_eq_of_le (show ds ls s j ≤ ds ls s v + co ls v j by omega) with h | h
  · split <;> omega
  · have hfin := ds_few g s v
    have hnn : ¬ away ls s j := fun e => by
      rcases e with e | e
      · exact hjs e.symm
      · omega
    by_cases hvs : v = s
    · subst hvs
      rw [if_pos rfl]
      rw [ds_self g] at h
      have := hop_le g hnn (v := j) ⟨hc, by rw [ds_self g]; omega⟩
      rw [ds_self g]
      omega
    · rw [if_neg hvs]
      have hnv : ¬ away ls s v := fun e => by
        rcases e with e | e
        · exact hvs e.symm
        · exact hv e
      obtain ⟨x, e1, ⟨e2, e3⟩, _, _⟩ := hop_some g hnv
      have t1 := ds_tri g x v j
      have t2 := ds_tri g s x j
      have t3 := ds_co g s x
      have := hop_le g hnn (v := x) ⟨e2, by omega⟩
      omega
/-- The best path comes over a node that is nearer. -/
theorem reach (g : Vector.Good n ls) {s j : Nat} (hs : s < n) (hjs : j ≠ s) (hj : ds ls s j ≠ 1000) : ∃ v, v < n ∧ ds ls s v < ds ls s j ∧ co ls v j ≠ 1000 ∧ kc ls s v j ≤ Kf ls s j := by
  have hnn : ¬ away ls s j := fun e => by
    rcases e with e | e
    · exact hjs e.symm
    · exact hj e
  obtain ⟨x, e1, ⟨e2, e3⟩, _, hxn⟩ := hop_some g hnn
  have hcx := co_few g e2
  by_cases hxj : x = j
  · subst hxj
    rw [ds_self g] at e3
    refine ⟨s, hs, by rw [ds_self g]; omega, e2, ?_⟩
    unfold kc Kf
    rw [if_pos rfl, ds_self g]
    omega
  · have hxj1 : ds ls j x ≠ 1000 := by
      have := ds_sym g j x
      have := ds_top g s j
      omega
    obtain ⟨v, f1, f2⟩ := ds_step g (i := j) (j := x) (by omega) (fun e => hxj e.symm) hxj1
    have hcv := co_few g f1
    have hs1 := co_sym ls j v
    have hs2 := ds_sym g j x
    have hs3 := ds_sym g v x
    have t1 := ds_tri g s x v
    have t2 := ds_co g s x
    have t3 := ds_tri g s v j
    have t4 := ds_co g v j
    have hvs : v ≠ s := fun e => by
      subst e
      have := ds_self g v
      have := ds_nat g x v
      omega
    have hnv : ¬ away ls s v := fun e => by
      rcases e with e | e
      · exact hvs e.symm
      · have := ds_top g s j; omega
    refine ⟨v, hcv.2.2.2.1, by omega, by omega, ?_⟩
    unfold kc Kf
    rw [if_neg hvs]
    have := hop_le g hnv (v := x) ⟨e2, by omega⟩
    omega

/-- What a node is told: its number if a path over u is better. -/
def cand (K : Nat → Int) (u : Nat) (c : Int) (j : Nat) : Int := 16 * (K u / 16 + c) + (if K u % 16 - 1 < 0 then (j : Int) + 1 else K u % 16)
def rlx (K : Nat → Int) (u : Nat) (c : Nat → Int) (j : Nat) : Int := if c j = 0 then K j else min (K j) (cand K u (c j) j)
/-- The cost of a link as the program writes it: 0 for none. -/
def zc (x : Int) : Int := if x = 1000 then 0 else x
/-- Dijkstra's rounds. -/
structure Inv (ls : List Lk) (s : Nat) (S : Nat → Bool) (K : Nat → Int) : Prop where
  low : ∀ j, Kf ls s j ≤ K j
  top : ∀ j, K j ≤ 16000
  src : K s = 0
  fin : ∀ v, S v = true → K v = Kf ls s v ∧ ds ls s v ≠ 1000
  rel : ∀ v, S v = true → ∀ j, co ls v j ≠ 1000 → K j ≤ kc ls s v j
def K0 (s : Nat) : Nat → Int := fun j => if j = s then 0 else 16000
theorem inv_start (g : Vector.Good n ls) (s : Nat) : Inv ls s (fun _ => false) (K0 s) := by
  refine ⟨fun j => ?_, fun j => ?_, ?_, fun v h => (by cases h), fun v h => (by cases h)⟩
  · unfold K0
    split
    · rename_i h; rw [h, Kf_self g]; exact Int.le_refl _
    · exact (Kf_b g s j).2
  · unfold K0; split <;> omega
  · unfold K0; rw [if_pos rfl]
/-- All that is nearer than what is not done is done. -/
theorem near (g : Vector.Good n ls) {s : Nat} (hs : s < n) {S : Nat → Bool} {K : Nat → Int} (h : Inv ls s S K) (hS : S s = true) {m : Int} (hm : ∀ w, w < 8 → S w = false → m ≤ K w / 16) :
    ∀ (k : Nat) (w : Nat), ds ls s w ≤ k → ds ls s w < m → ds ls s w ≠ 1000 → S w = true := by
  intro k
  induction k with
  | zero =>
    intro w h1 _ _
    by_cases e : w = s
    · rw [e]; exact hS
    · have := ds_pos g (i := s) (j := w) (fun e2 => e e2.symm); omega
  | succ k ih =>
    intro w h1 h2 h3
    by_cases e : w = s
    · rw [e]; exact hS
    · obtain ⟨v, hv, a1, a2, a3⟩ := reach g hs e h3
      have hf := ds_top g s w
      have hSv := ih v (by omega) (by omega) (by omega)
      have := h.rel v hSv w a2
      have hb := Kf_far g s w
      by_cases hw : S w = true
      · exact hw
      · have hwn : w < n := by
          rcases Nat.lt_or_ge w n with e | e
          · exact e
          · exact absurd (ds_out g (i := s) e (by omega)) h3
        have := hm w (by have := g.up; omega) (by simpa using hw)
        omega
/-- One round. -/
theorem inv_step (g : Vector.Good n ls) {s : Nat} (hs : s < n) {S : Nat → Bool} {K : Nat → Int} (h : Inv ls s S K) {u : Nat} (hu : S u = false) (hf : K u / 16 < 1000) (hm : ∀ w, w < 8 → S w = false → K u / 16 ≤ K w / 16)
    (hS : S s = true ∨ u = s) : Inv ls s (fun j => if j = u then true else S j) (rlx K u fun j => zc (co ls u j)) := by
  have hlow := h.low u
  have hbu := Kf_far g s u
  have hKu : K u = Kf ls s u ∧ ds ls s u ≠ 1000 := by
    by_cases e : u = s
    · subst e; rw [h.src, Kf_self g, ds_self g]; exact ⟨rfl, by omega⟩
    · have hSs : S s = true := by
        rcases hS with hS | hS
        · exact hS
        · exact absurd hS e
      have hd : ds ls s u ≠ 1000 := by omega
      obtain ⟨v, hv, a1, a2, a3⟩ := reach g hs e hd
      have := ds_top g s u
      have hn := ds_nat g s v
      have hSv := near g hs h hSs hm (ds ls s v).toNat v (by omega) (by omega) (by omega)
      have := h.rel v hSv u a2
      exact ⟨by omega, hd⟩
  have hcand : ∀ j, co ls u j ≠ 1000 → cand K u (zc (co ls u j)) j = kc ls s u j := fun j hc => by
    unfold cand kc zc
    rw [hKu.1, hbu.1, if_neg hc]
    have hb := hop_b g s u
    by_cases e : u = s
    · rw [if_pos e, if_pos]
      rw [hbu.2, hop_none g (.inl e.symm)]; omega
    · have hnn : ¬ away ls s u := fun e2 => by
        rcases e2 with e2 | e2
        · exact e e2.symm
        · exact hKu.2 e2
      obtain ⟨x, h1, _⟩ := hop_some g hnn
      rw [if_neg e, if_neg (by rw [hbu.2, h1]; omega)]
      omega
  have hval : ∀ j, (co ls u j = 1000 ∧ rlx K u (fun j => zc (co ls u j)) j = K j) ∨ (co ls u j ≠ 1000 ∧ rlx K u (fun j => zc (co ls u j)) j = min (K j) (kc ls s u j)) := fun j => by
    unfold rlx
    by_cases hc : co ls u j = 1000
    · exact .inl ⟨hc, if_pos (by show zc (co ls u j) = 0; unfold zc; rw [if_pos hc])⟩
    · refine .inr ⟨hc, ?_⟩
      have := co_few g hc
      rw [if_neg (by show zc (co ls u j) ≠ 0; unfold zc; rw [if_neg hc]; omega)]
      show min (K j) (cand K u (zc (co ls u j)) j) = _
      rw [hcand j hc]
  have hle : ∀ j, rlx K u (fun j => zc (co ls u j)) j ≤ K j := fun j => by
    rcases hval j with ⟨_, e⟩ | ⟨_, e⟩ <;> rw [e] <;> omega
  have hge : ∀ j, Kf ls s j ≤ rlx K u (fun j => zc (co ls u j)) j := fun j => by
    have := h.low j
    rcases hval j with ⟨_, e⟩ | ⟨hc, e⟩
    · rw [e]; exact this
    · rw [e]
      have := sound g (s := s) (v := u) (j := j) hKu.2 hc
      omega
  refine ⟨hge, fun j => Int.le_trans (hle j) (h.top j), ?_, fun v hv => ?_, fun v hv j hc => ?_⟩
  · have h1 := hle s; have h2 := hge s
    rw [h.src] at h1
    rw [Kf_self g] at h2
    omega
  · have h1 := hle v; have h2 := hge v
    by_cases e : v = u
    · subst e
      rw [hKu.1] at h1
      exact ⟨by omega, hKu.2⟩
    · simp only [if_neg e] at hv
      obtain ⟨h3, h4⟩ := h.fin v hv
      exact ⟨by omega, h4⟩
  · by_cases e : v = u
    · subst e
      rcases hval j with ⟨h1, _⟩ | ⟨_, h1⟩
      · exact absurd h1 hc
      · rw [h1]; omega
    · simp only [if_neg e] at hv
      exact Int.le_trans (hle j) (h.rel v hv j hc)
/-- Nothing is left: all is known. -/
theorem inv_end (g : Vector.Good n ls) {s : Nat} (hs : s < n) {S : Nat → Bool} {K : Nat → Int} (h : Inv ls s S K) (hS : S s = true) (hm : ∀ w, w < 8 → S w = false → 1000 ≤ K w / 16) (j : Nat) : K j = Kf ls s j := by
  by_cases hd : ds ls s j = 1000
  · have h1 := h.low j
    have h2 := h.top j
    unfold Kf at h1 ⊢
    rw [hd, hop_none g (.inr hd)] at h1 ⊢
    omega
  · have := ds_top g s j
    have := ds_nat g s j
    exact (h.fin j (near g hs h hS hm (ds ls s j).toNat j (by omega) (by omega) hd)).1
end Go.Proofs.YtedhippamfioeaaDoor.Spf
