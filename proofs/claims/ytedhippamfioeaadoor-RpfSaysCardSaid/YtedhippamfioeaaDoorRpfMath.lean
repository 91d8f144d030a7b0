/- Reverse path forwarding: who sends a copy to whom, how many there are; over a tree each one has one. Mathematics alone. No statement is proved here. -/
import Derived.Test.YtedhippamfioeaaDoorStpMath
namespace Go.Proofs.YtedhippamfioeaaDoor.Rpf
open Go.Proofs.YtedhippamfioeaaDoor.Vector Go.Proofs.YtedhippamfioeaaDoor.Spf Go.Proofs.YtedhippamfioeaaDoor.Stp
set_option linter.unusedVariables false

variable {n : Nat} {ls ms : List Lk}
/-- p sends a copy to v when the broadcast comes from s. -/
def gives (ls : List Lk) (s p v : Nat) : Prop := ds ls p s ≠ 1000 ∧ co ls p v ≠ 1000 ∧ hop ls p s ≠ (v : Int)
noncomputable instance (s p v : Nat) : Decidable (gives ls s p v) := by unfold gives; exact inferInstance
/-- The sum of f over the numbers below k. -/
def sm (f : Nat → Nat) : Nat → Nat
  | 0 => 0
  | k + 1 => sm f k + f k
theorem sm_congr {f g : Nat → Nat} {k : Nat} (h : ∀ i, i < k → f i = g i) : sm f k = sm g k := by
  induction k with
  | zero => rfl
  | succ k ih => rw [sm, sm, ih (fun i hi => h i (by omega)), h k (by omega)]
theorem sm_le {f g : Nat → Nat} {k : Nat} (h : ∀ i, i < k → f i ≤ g i) : sm f k ≤ sm g k := by
  induction k with
  | zero => exact Nat.le_refl _
  | succ k ih => rw [sm, sm]; have := ih (fun i hi => h i (by omega)); have := h k (by omega); omega
theorem sm_add (f g : Nat → Nat) (k : Nat) : sm (fun i => f i + g i) k = sm f k + sm g k := by
  induction k with
  | zero => rfl
  | succ k ih => rw [sm, sm, sm, ih]; omega
theorem sm_zero {f : Nat → Nat} {k : Nat} (h : ∀ i, i < k → f i = 0) : sm f k = 0 := by
  induction k with
  | zero => rfl
  | succ k ih => rw [sm, ih (fun i hi => h i (by omega)), h k (by omega)]
theorem sm_pos {f : Nat → Nat} {k : Nat} : 0 < sm f k ↔ ∃ i, i < k ∧ 0 < f i := by
  induction k with
  | zero => exact ⟨fun h => absurd h (Nat.lt_irrefl _), fun ⟨i, hi, _⟩ => absurd hi (Nat.not_lt_zero _)⟩
  | succ k ih =>
    rw [sm]
    constructor
    · intro h
      by_cases h1 : 0 < sm f k
      · obtain ⟨i, hi, h2⟩ := ih.1 h1
        exact ⟨i, by omega, h2⟩
      · exact ⟨k, by omega, by omega⟩
    · rintro ⟨i, hi, h2⟩
      by_cases e : i = k
      · subst e; omega
      · have := ih.2 ⟨i, by omega, h2⟩
        omega
/-- One number alone counts. -/
theorem sm_one {f : Nat → Nat} {k p : Nat} (hp : p < k) (h1 : f p = 1) (h0 : ∀ i, i < k → i ≠ p → f i = 0) : sm f k = 1 := by
  induction k with
  | zero => exact absurd hp (Nat.not_lt_zero _)
  | succ k ih =>
    rw [sm]
    by_cases e : p = k
    · subst e
      rw [sm_zero (fun i hi => h0 i (by omega) (by omega)), h1]
    · rw [ih (by omega) (fun i hi => h0 i (by omega)), h0 k (by omega) (fun h => e h.symm)]
/-- A symmetric relation, told once in each order. -/
theorem sm_pairs (r : Nat → Nat → Nat) (hs : ∀ i j, r i j = r j i) (h0 : ∀ i, r i i = 0) : ∀ k, sm (fun i => sm (fun j => r j i) k) k = 2 * sm (fun i => sm (fun j => r i j) i) k
  | 0 => rfl
  | k + 1 => by
    have ih := sm_pairs r hs h0 k
    have e1 : sm (fun i => sm (fun j => r j i) (k + 1)) k = sm (fun i => sm (fun j => r j i) k) k + sm (fun i => r k i) k := by
      rw [← sm_add]
      rfl
    have e2 : sm (fun j => r j k) (k + 1) = sm (fun j => r k j) k := by
      rw [sm, h0 k, Nat.add_zero]
      exact sm_congr (fun i hi => hs i k)
    show sm (fun i => sm (fun j => r j i) (k + 1)) k + sm (fun j => r j k) (k + 1) = _
    rw [e1, e2, ih, sm]
    omega

/-- How many copies v receives. -/
noncomputable def copies (n : Nat) (ls : List Lk) (s v : Nat) : Nat := sm (fun p => if gives ls s p v then 1 else 0) n
noncomputable def sent (n : Nat) (ls : List Lk) (s : Nat) : Nat := sm (copies n ls s) n
theorem near_far (g : Vector.Good n ls) {s p v : Nat} (hp : ds ls p s ≠ 1000) (hc : co ls p v ≠ 1000) : ds ls v s ≠ 1000 := by
  have h1 := ds_tri g v p s
  have h2 := ds_co g v p
  have h3 := co_few g hc
  rw [co_sym] at h3
  rcases ds_few g p s with h | h
  · exact absurd h hp
  · omega
/-- The first hop of whoever can be reached. -/
theorem hop_ex (g : Vector.Good n ls) {s v : Nat} (hv : v ≠ s) (hr : ds ls v s ≠ 1000) : ∃ p : Nat, hop ls v s = (p : Int) ∧ nb ls v s p ∧ p < n ∧ v < n ∧ ds ls p s ≠ 1000 ∧ ds ls p s < ds ls v s := by
  obtain ⟨p, h1, h2, _, h4⟩ := hop_some g (s := v) (t := s) (fun h => by rcases h with h | h; exact hv h; exact hr h)
  have h5 := co_few g h2.1
  have h6 := h2.2
  have h7 := ds_nat g p s
  rcases ds_few g v s with h | h
  · exact absurd h hr
  · exact ⟨p, h1, h2, h4, h5.2.2.1, by omega, by omega⟩
theorem hop_gives (g : Vector.Good n ls) {s v p : Nat} (hp : hop ls v s = (p : Int)) : gives ls s p v := by
  have hne : ¬ away ls v s := fun h => by rw [hop_none g h] at hp; omega
  obtain ⟨q, h1, h2, h3, h4, h5, h6⟩ := hop_ex g (fun e => hne (.inl e)) (fun e => hne (.inr e))
  obtain rfl : q = p := by omega
  refine ⟨h5, by rw [co_sym]; exact h2.1, fun h => ?_⟩
  have hne2 : ¬ away ls q s := fun h' => by rw [hop_none g h'] at h; omega
  obtain ⟨u, k1, _, _, _, _, k6⟩ := hop_ex g (fun e => hne2 (.inl e)) h5
  obtain rfl : u = v := by omega
  omega
theorem gives_lt (g : Vector.Good n ls) {s p v : Nat} (h : gives ls s p v) : p < n ∧ v < n ∧ p ≠ v := by
  have := co_few g h.2.1
  exact ⟨this.2.2.1, this.2.2.2.1, this.2.2.2.2⟩
theorem copies_pos (g : Vector.Good n ls) {s v : Nat} (hv : v ≠ s) : 0 < copies n ls s v ↔ ds ls v s ≠ 1000 := by
  unfold copies
  rw [sm_pos]
  constructor
  · rintro ⟨p, hp, h⟩
    by_cases hg : gives ls s p v
    · exact near_far g hg.1 hg.2.1
    · rw [if_neg hg] at h; omega
  · intro h
    obtain ⟨p, h1, h2, h3, _⟩ := hop_ex g hv h
    exact ⟨p, h3, by rw [if_pos (hop_gives g h1)]; omega⟩
/-- The pairs that are linked. -/
def pairs (ls : List Lk) (k : Nat) : Nat := sm (fun i => sm (fun j => if co ls i j ≠ 1000 then 1 else 0) i) k
theorem sent_le (g : Vector.Good n ls) (s : Nat) : sent n ls s ≤ 2 * pairs ls n := by
  unfold sent pairs
  rw [← sm_pairs (fun i j => if co ls i j ≠ 1000 then 1 else 0) (fun i j => by rw [co_sym]) (fun i => by rw [co_self g]; rfl) n]
  refine sm_le (fun v hv => sm_le (fun p hp => ?_))
  by_cases h : gives ls s p v
  · rw [if_pos h, if_pos h.2.1]; exact Nat.le_refl _
  · rw [if_neg h]; exact Nat.zero_le _

/-- A forest: of any two that are linked one is the other's next on the way to the root. -/
def Forest (ls : List Lk) : Prop := ∀ p v : Nat, co ls p v ≠ 1000 → ov ls p = (v : Int) ∨ ov ls v = (p : Int)
/-- Those whose way to the root goes over v. -/
inductive In (ls : List Lk) (v : Nat) : Nat → Prop
  | self : In ls v v
  | step {x y : Nat} : ov ls x = (y : Int) → In ls v y → In ls v x
theorem In.fr (g : Vector.Good n ls) {v x : Nat} (h : In ls v x) : fr ls v ≤ fr ls x := by
  induction h with
  | self => exact Int.le_refl _
  | step h1 h2 ih =>
    have := (up_ov g h1).fr
    have := (up_ov g h1).co
    omega
theorem In.out (hf : Forest ls) {v x y : Nat} (hx : In ls v x) (hy : ¬ In ls v y) (hc : co ls x y ≠ 1000) : x = v ∧ ov ls v = (y : Int) := by
  have h1 : ov ls x = (y : Int) := by
    rcases hf x y hc with h | h
    · exact h
    · exact absurd (In.step h hx) hy
  cases hx with
  | self => exact ⟨rfl, h1⟩
  | step h2 h3 =>
    rename_i z
    have : (z : Int) = (y : Int) := h2.symm.trans h1
    have e : z = y := by omega
    exact absurd (e ▸ h3) hy
theorem ed_co {ls : List Lk} {i j : Nat} {c : Int} (g : Vector.Good n ls) (h : Ed ls i j c) : co ls i j ≠ 1000 ∧ co ls i j ≤ c := by
  have h1 := co_le g h
  have h2 := (Ed.cost g h).2.1
  exact ⟨by omega, h1⟩
/-- A way out of the subtree of v goes by v and its next. -/
theorem way_out (g : Vector.Good n ls) (hf : Forest ls) {v p s : Nat} (hp : ov ls v = (p : Int)) (hs : ¬ In ls v s) {k x : Nat} {c : Int} (hw : Vector.Way ls k x s c) (hk : s < n) : In ls v x → ds ls x v + co ls v p + ds ls p s ≤ c := by
  induction hw with
  | nil i => intro h; exact absurd h hs
  | cons he hw2 ih =>
    rename_i k2 i m j c1 d1
    intro hx
    obtain ⟨hc, hle⟩ := ed_co g he
    by_cases hm : In ls v m
    · have h1 := ih hs hk hm
      have h2 := ds_tri g i m v
      have h3 := ds_co g i m
      omega
    · obtain ⟨rfl, h2⟩ := hx.out hf hm hc
      obtain rfl : p = m := by omega
      have h3 := way_le g hk hw2
      rw [ds_self g]
      omega
theorem ds_way (g : Vector.Good n ls) {i j : Nat} (h : ds ls i j ≠ 1000) : ∃ k, Vector.Way ls k i j (ds ls i j) := by
  rcases D_way g 8 i j with e | ⟨m, _, hw⟩
  · exact absurd e h
  · exact ⟨m, hw⟩
/-- Of two that are linked in a forest one is the other's first hop towards s. -/
theorem forest_hop (g : Vector.Good n ls) (hf : Forest ls) {s p v : Nat} (hs : s < n) (hr : ds ls v s ≠ 1000) (hp : ov ls v = (p : Int)) : (¬ In ls v s ∧ hop ls v s = (p : Int)) ∨ (In ls v s ∧ hop ls p s = (v : Int)) := by
  have hu := up_ov g hp
  have hco := hu.co
  have hnp : ¬ In ls v p := fun h => by
    have := h.fr g
    have := hu.fr
    omega
  have hrp : ds ls p s ≠ 1000 := near_far g hr hu.nb.1
  by_cases hin : In ls v s
  · right
    refine ⟨hin, ?_⟩
    have hps : p ≠ s := fun e => hnp (e ▸ hin)
    have hlow : ∀ x, ¬ In ls v x → x < n → ds ls x s ≠ 1000 → ds ls x p + co ls v p + ds ls v s ≤ ds ls x s := fun x hx hxn hxr => by
      obtain ⟨k, hw⟩ := ds_way g hxr
      have h1 := way_out g hf hp hx hw.back hxn hin
      rw [ds_sym g s v, ds_sym g p x] at h1
      omega
    have h0 := hlow p hnp hu.lt hrp
    rw [ds_self g] at h0
    have h1 := ds_tri g p v s
    have h2 := ds_co g p v
    have h3 := co_sym ls v p
    have hnb : nb ls p s v := ⟨by rw [← h3]; exact hu.nb.1, by omega⟩
    refine hop_eq g (.inr ⟨fun h => by rcases h with h | h; exact hps h; exact hrp h, v, rfl, hnb, fun u huv hnu => ?_⟩)
    have hcu := co_few g hnu.1
    have hu2 := hnu.2
    by_cases hiu : In ls v u
    · have := (hiu.out hf hnp (by rw [co_sym]; exact hnu.1)).1
      omega
    · have h5 := hlow u hiu hcu.2.2.2.1 (near_far g hrp hnu.1)
      have h6 := ds_nat g u p
      omega
  · left
    refine ⟨hin, ?_⟩
    have hvs : v ≠ s := fun e => hin (e ▸ In.self)
    have hlow : ∀ x, In ls v x → ds ls x s ≠ 1000 → ds ls x v + co ls v p + ds ls p s ≤ ds ls x s := fun x hx hxr => by
      obtain ⟨k, hw⟩ := ds_way g hxr
      exact way_out g hf hp hin hw hs hx
    have h0 := hlow v In.self hr
    rw [ds_self g] at h0
    have h1 := ds_tri g v p s
    have h2 := ds_co g v p
    have hnb : nb ls v s p := ⟨hu.nb.1, by omega⟩
    refine hop_eq g (.inr ⟨fun h => by rcases h with h | h; exact hvs h; exact hr h, p, rfl, hnb, fun u hup hnu => ?_⟩)
    have hcu := co_few g hnu.1
    have hu2 := hnu.2
    rcases hf v u hnu.1 with h | h
    · have : (u : Int) = (p : Int) := h.symm.trans hp
      omega
    · have h5 := hlow u (In.step h In.self) (near_far g hr hnu.1)
      have h6 := ds_nat g u v
      omega
theorem forest_both (g : Vector.Good n ls) (hf : Forest ls) {s p v : Nat} (hs : s < n) (hr : ds ls v s ≠ 1000) (hc : co ls p v ≠ 1000) : hop ls v s = (p : Int) ∨ hop ls p s = (v : Int) := by
  rcases hf p v hc with h | h
  · rcases forest_hop g hf hs (near_far g hr (by rw [co_sym]; exact hc)) h with h1 | h1
    · exact .inr h1.2
    · exact .inl h1.2
  · rcases forest_hop g hf hs hr h with h1 | h1
    · exact .inl h1.2
    · exact .inr h1.2
/-- Over a forest each one that can be reached has one copy, the source none. -/
theorem forest_copies (g : Vector.Good n ls) (hf : Forest ls) {s v : Nat} (hs : s < n) : copies n ls s v = if v ≠ s ∧ ds ls v s ≠ 1000 then 1 else 0 := by
  have key : ∀ p, gives ls s p v → hop ls v s = (p : Int) := fun p hg => by
    rcases forest_both g hf hs (near_far g hg.1 hg.2.1) hg.2.1 with h | h
    · exact h
    · exact absurd h hg.2.2
  unfold copies
  by_cases h : v ≠ s ∧ ds ls v s ≠ 1000
  · rw [if_pos h]
    obtain ⟨p, h1, _, h3, _⟩ := hop_ex g h.1 h.2
    refine sm_one h3 (by rw [if_pos (hop_gives g h1)]) (fun i hi hne => ?_)
    rw [if_neg]
    intro hg
    have := key i hg
    omega
  · rw [if_neg h]
    refine sm_zero (fun p hp => ?_)
    rw [if_neg]
    intro hg
    have h1 := key p hg
    have h2 : away ls v s := by
      by_cases e : v = s
      · exact .inl e
      · exact .inr (Classical.byContradiction fun h3 => h ⟨e, h3⟩)
    rw [hop_none g h2] at h1
    omega
theorem picks_of {u : Nat → Bool} {l : Lk} : ∀ (k : Nat), l ∈ picks ls u k → ∃ j, j < k ∧ u j = true ∧ l = lk ls j
  | 0, h => by cases h
  | k + 1, h => by
    have h' : l ∈ (if u k then picks ls u k ++ [lk ls k] else picks ls u k) := h
    cases hu : u k with
    | false =>
      rw [hu] at h'
      obtain ⟨j, h1, h2, h3⟩ := picks_of k (by simpa using h')
      exact ⟨j, by omega, h2, h3⟩
    | true =>
      rw [hu] at h'
      have h'' : l ∈ picks ls u k ++ [lk ls k] := by simpa using h'
      rcases List.mem_append.1 h'' with h1 | h1
      · obtain ⟨j, h1, h2, h3⟩ := picks_of k h1
        exact ⟨j, by omega, h2, h3⟩
      · exact ⟨k, by omega, hu, by simpa using h1⟩
/-- The links that the tree takes are a forest. -/
theorem used_forest (g : Vector.Good n ls) : Forest (picks ls (us ls n) ls.length) := fun p v hc => by
  have g2 := picks_good g (us ls n)
  have hk : Keeps ls (picks ls (us ls n) ls.length) := keeps_of g (fun l hl => picks_sub _ (Nat.le_refl _) l hl) (fun k h1 h2 => picks_mem _ _ h1 h2)
  have hb := co_few g2 hc
  rcases co_or g2 p v with e | ⟨l, hl, _, hends⟩
  · exact absurd e hc
  · obtain ⟨k, h1, h2, rfl⟩ := picks_of _ hl
    obtain ⟨i, hi, w, h3, h4⟩ := us_iff.1 h2
    have hfit := h4.fit
    have ha := g.all _ (lk_mem h1)
    unfold fit at hfit
    have hov := hk.ov g g2 hi
    rw [h3] at hov
    have : (p = i ∧ v = w) ∨ (p = w ∧ v = i) := by omega
    rcases this with ⟨rfl, rfl⟩ | ⟨rfl, rfl⟩
    · exact .inl hov
    · exact .inr hov
theorem used_keeps (g : Vector.Good n ls) : Keeps ls (picks ls (us ls n) ls.length) := keeps_of g (fun l hl => picks_sub _ (Nat.le_refl _) l hl) (fun k h1 h2 => picks_mem _ _ h1 h2)
/-- Links that keep the tree reach whom all links reach. -/
theorem keeps_near (k : Keeps ls ms) (g : Vector.Good n ls) (g2 : Vector.Good n ms) {i j : Nat} (hi : i < n) (hj : j < n) : ds ms i j = 1000 ↔ ds ls i j = 1000 := by
  have h1 := k.le g2 i j
  have h2 := ds_top g2 i j
  constructor
  · intro h
    refine Classical.byContradiction fun hn => ?_
    have e := rt_same g hn
    have f1 := k.rt g g2 hi
    have f2 := k.rt g g2 hj
    have r1 := (rt_is g2 i).1
    have r2 := (rt_is g2 j).1
    rw [f1] at r1
    rw [f2, ← e] at r2
    have h3 := ds_tri g2 i (rt ls i) j
    rw [ds_sym g2 (rt ls i) j] at h3
    rcases ds_few g2 i (rt ls i) with q | q
    · exact r1 q
    · rcases ds_few g2 j (rt ls i) with q2 | q2
      · exact r2 q2
      · omega
  · intro h
    omega

/-- Who goes over at on the way to s. -/
noncomputable def kids (n : Nat) (ls : List Lk) (s : Nat) (at_ : Int) : List Nat := (List.range n).filter fun v => decide (v ≠ s ∧ hop ls v s = at_)
/-- The broadcast while it runs: P have sent, Q will, in this order. -/
structure Run (n : Nat) (ls : List Lk) (s : Nat) (P Q : List Nat) : Prop where
  nd : (P ++ Q).Nodup
  rng : ∀ x ∈ P ++ Q, x < n ∧ ds ls x s ≠ 1000
  src : s ∈ P ++ Q
  up : ∀ v ∈ P ++ Q, v ≠ s → ∃ p ∈ P, hop ls v s = ((p : Nat) : Int)
  kid : ∀ p ∈ P, ∀ v, v ≠ s → hop ls v s = ((p : Nat) : Int) → v ∈ P ++ Q
theorem run_start (g : Vector.Good n ls) {s : Nat} (hs : s < n) : Run n ls s [] [s] :=
  ⟨by simp, fun x hx => by
    have : x = s := by simpa using hx
    subst this
    exact ⟨hs, by rw [ds_self g]; decide⟩, by simp, fun v hv h => by
    have : v = s := by simpa using hv
    exact absurd this h, fun p hp => by cases hp⟩
theorem mem_kids {s v : Nat} {p : Int} : v ∈ kids n ls s p ↔ v < n ∧ v ≠ s ∧ hop ls v s = p := by
  unfold kids
  rw [List.mem_filter, List.mem_range, decide_eq_true_eq]
theorem run_step (g : Vector.Good n ls) {s p : Nat} {P Q : List Nat} (h : Run n ls s P (p :: Q)) : Run n ls s (P ++ [p]) (Q ++ kids n ls s p) := by
  have e : (P ++ [p]) ++ (Q ++ kids n ls s p) = (P ++ p :: Q) ++ kids n ls s p := by simp
  have hpn : p ∉ P := by
    have := h.nd
    rw [List.nodup_append] at this
    exact fun hp => this.2.2 p hp p (by simp) rfl
  refine ⟨?_, fun x hx => ?_, ?_, fun v hv hvs => ?_, fun q hq v hvs hv => ?_⟩
  · rw [e, List.nodup_append]
    refine ⟨h.nd, (List.filter_sublist).nodup List.nodup_range, fun a ha b hb hab => ?_⟩
    subst hab
    obtain ⟨_, h2, h3⟩ := mem_kids.1 hb
    obtain ⟨q, h4, h5⟩ := h.up a ha h2
    have : q = p := by omega
    exact hpn (this ▸ h4)
  · rw [e] at hx
    rcases List.mem_append.1 hx with h1 | h1
    · exact h.rng x h1
    · obtain ⟨h2, h3, h4⟩ := mem_kids.1 h1
      refine ⟨h2, fun h5 => ?_⟩
      rw [hop_none g (.inr h5)] at h4
      omega
  · rw [e]; exact List.mem_append_left _ h.src
  · rw [e] at hv
    rcases List.mem_append.1 hv with h1 | h1
    · obtain ⟨q, h2, h3⟩ := h.up v h1 hvs
      exact ⟨q, List.mem_append_left _ h2, h3⟩
    · exact ⟨p, by simp, (mem_kids.1 h1).2.2⟩
  · rw [e]
    rcases List.mem_append.1 hq with h1 | h1
    · exact List.mem_append_left _ (h.kid q h1 v hvs hv)
    · have : q = p := by simpa using h1
      subst this
      refine List.mem_append_right _ (mem_kids.2 ⟨?_, hvs, hv⟩)
      obtain ⟨_, h3, _⟩ := gives_lt g (hop_gives g hv)
      exact h3
/-- At the end all have sent that can be reached. -/
theorem run_end (g : Vector.Good n ls) {s : Nat} {P : List Nat} (h : Run n ls s P []) : ∀ (b v : Nat), ds ls v s ≤ b → ds ls v s ≠ 1000 → v ∈ P
  | b, v, hb, hv => by
    by_cases e : v = s
    · subst e
      simpa using h.src
    · obtain ⟨p, h1, h2, h3, h4, h5, h6⟩ := hop_ex g e hv
      have hb0 := ds_nat g p s
      obtain ⟨b', rfl⟩ : ∃ b', b = b' + 1 := ⟨b - 1, by omega⟩
      have hp := run_end g h b' p (by omega) h5
      simpa using h.kid p hp v e h1
theorem run_len (g : Vector.Good n ls) {s : Nat} {P Q : List Nat} (h : Run n ls s P Q) : P.length + Q.length ≤ n := by
  rw [← List.length_append]
  exact nodup_len n _ h.nd (fun x hx => (h.rng x hx).1)
/-- How many copies v has when P have sent. -/
noncomputable def had (ls : List Lk) (s : Nat) (P : List Nat) (v : Nat) : Nat := (P.map fun p => if gives ls s p v then 1 else 0).sum
theorem had_app (s p v : Nat) (P : List Nat) : had ls s (P ++ [p]) v = had ls s P v + if gives ls s p v then 1 else 0 := by
  unfold had
  rw [List.map_append, List.sum_append]
  simp
theorem sum_all (f : Nat → Nat) : ∀ (k : Nat) (P : List Nat), P.Nodup → (∀ x ∈ P, x < k) → (∀ x, x < k → x ∉ P → f x = 0) → (P.map f).sum = sm f k
  | 0, P, _, h, _ => by
    cases P with
    | nil => rfl
    | cons x P => exact absurd (h x (by simp)) (Nat.not_lt_zero _)
  | k + 1, P, nd, h, h0 => by
    rw [sm]
    by_cases hk : k ∈ P
    · have hp : P.Perm (k :: P.erase k) := List.perm_cons_erase hk
      have e : (P.map f).sum = f k + ((P.erase k).map f).sum := by
        have := (hp.map f).sum_nat
        simpa using this
      rw [e, sum_all f k (P.erase k) (nd.erase k) (fun x hx => ?_) (fun x hx hn => ?_)]
      · omega
      · have h1 := h x (List.mem_of_mem_erase hx)
        have h2 : x ≠ k := fun e => by
          subst e
          exact (List.Nodup.mem_erase_iff nd).1 hx |>.1 rfl
        omega
      · refine h0 x (by omega) (fun hx2 => hn ((List.Nodup.mem_erase_iff nd).2 ⟨by omega, hx2⟩))
    · rw [sum_all f k P nd (fun x hx => ?_) (fun x hx hn => h0 x (by omega) hn), h0 k (by omega) hk]
      · rfl
      · have h1 := h x hx
        have h2 : x ≠ k := fun e => hk (e ▸ hx)
        omega
theorem had_end (g : Vector.Good n ls) {s : Nat} {P : List Nat} (h : Run n ls s P []) (v : Nat) : had ls s P v = copies n ls s v := by
  unfold had copies
  have hnd := h.nd
  rw [List.append_nil] at hnd
  refine sum_all _ n P hnd (fun x hx => (h.rng x (by simpa using hx)).1) (fun x hx hn => ?_)
  rw [if_neg]
  intro hg
  exact hn (run_end g h (ds ls x s).toNat x (by have := ds_nat g x s; omega) hg.1)
/-- How many have been sent in all when P have sent. -/
noncomputable def many (n : Nat) (ls : List Lk) (s : Nat) (P : List Nat) : Nat := sm (had ls s P) n
theorem many_app (n : Nat) (s p : Nat) (P : List Nat) : many n ls s (P ++ [p]) = many n ls s P + sm (fun v => if gives ls s p v then 1 else 0) n := by
  unfold many
  rw [← sm_add]
  exact sm_congr (fun v _ => had_app s p v P)
theorem many_end (g : Vector.Good n ls) {s : Nat} {P : List Nat} (h : Run n ls s P []) : many n ls s P = sent n ls s := sm_congr (fun v _ => had_end g h v)
/-- Each one that can be reached goes over just one. -/
theorem told_one (g : Vector.Good n ls) {s v : Nat} : sm (fun p => if hop ls v s = (p : Int) then 1 else 0) n = if v ≠ s ∧ ds ls v s ≠ 1000 then 1 else 0 := by
  by_cases h : v ≠ s ∧ ds ls v s ≠ 1000
  · rw [if_pos h]
    obtain ⟨p, h1, _, h3, _⟩ := hop_ex g h.1 h.2
    exact sm_one h3 (by rw [if_pos h1]) (fun i hi hne => by rw [if_neg]; omega)
  · rw [if_neg h]
    refine sm_zero (fun p hp => ?_)
    rw [if_neg]
    intro h1
    have h2 : away ls v s := by
      by_cases e : v = s
      · exact .inl e
      · exact .inr (Classical.byContradiction fun h3 => h ⟨e, h3⟩)
    rw [hop_none g h2] at h1
    omega
theorem kids_far (g : Vector.Good n ls) {s v p : Nat} (h : hop ls v s = (p : Int)) : ds ls p s < ds ls v s ∧ v ≠ s ∧ v < n ∧ ds ls v s ≠ 1000 := by
  have hne : ¬ away ls v s := fun h' => by rw [hop_none g h'] at h; omega
  obtain ⟨q, h1, _, _, h4, _, h6⟩ := hop_ex g (fun e => hne (.inl e)) (fun e => hne (.inr e))
  obtain rfl : q = p := by omega
  exact ⟨h6, fun e => hne (.inl e), h4, fun e => hne (.inr e)⟩
/-- Over a forest as many copies are sent as there are others that can be reached. -/
theorem forest_sent (g : Vector.Good n ls) (hf : Forest ls) {s : Nat} (hs : s < n) : sent n ls s = sm (fun v => if v ≠ s ∧ ds ls v s ≠ 1000 then 1 else 0) n :=
  sm_congr (fun v _ => forest_copies g hf hs)
end Go.Proofs.YtedhippamfioeaaDoor.Rpf
