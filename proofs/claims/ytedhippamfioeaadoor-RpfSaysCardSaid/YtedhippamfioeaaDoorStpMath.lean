/- The spanning tree: the smallest bridge that can be reached, how far it is, the next hop, and what is kept when links go that the tree does not take. Mathematics alone. No statement is proved here. -/
import Derived.Test.YtedhippamfioeaaDoorSpfTrail
namespace Go.Proofs.YtedhippamfioeaaDoor.Stp
open Go.Proofs.YtedhippamfioeaaDoor.Vector Go.Proofs.YtedhippamfioeaaDoor.Spf
set_option linter.unusedVariables false

variable {n : Nat} {ls ms : List Lk}
/-- The smallest bridge that can be reached. -/
def isRt (ls : List Lk) (i r : Nat) : Prop := ds ls i r ≠ 1000 ∧ ∀ u, u < r → ds ls i u = 1000
theorem isRt_uniq {i r s : Nat} (a : isRt ls i r) (b : isRt ls i s) : r = s := by
  rcases Nat.lt_trichotomy r s with h | h | h
  · exact absurd (b.2 r h) a.1
  · exact h
  · exact absurd (a.2 s h) b.1
open Classical in
noncomputable def rt (ls : List Lk) (i : Nat) : Nat := if h : ∃ r, isRt ls i r then Classical.choose h else 0
theorem rt_is (g : Vector.Good n ls) (i : Nat) : isRt ls i (rt ls i) := by
  have h : ∃ r, isRt ls i r := by
    obtain ⟨v, _, h1, h2⟩ := least (p := fun r => ds ls i r ≠ 1000) i (by rw [ds_self g]; omega)
    exact ⟨v, h1, fun u hu => Decidable.not_not.1 (h2 u hu)⟩
  unfold rt
  rw [dif_pos h]
  exact Classical.choose_spec h
theorem rt_eq (g : Vector.Good n ls) {i r : Nat} (h : isRt ls i r) : rt ls i = r := isRt_uniq (rt_is g i) h
theorem rt_le (g : Vector.Good n ls) (i : Nat) : rt ls i ≤ i := by
  rcases Nat.lt_or_ge i (rt ls i) with h | h
  · have := (rt_is g i).2 i h
    rw [ds_self g] at this; omega
  · exact h
/-- What can be reached from both. -/
theorem conn (g : Vector.Good n ls) {i j : Nat} (h : ds ls i j ≠ 1000) (u : Nat) : ds ls i u = 1000 ↔ ds ls j u = 1000 := by
  have h1 := ds_tri g i j u
  have h2 := ds_tri g j i u
  have h3 := ds_few g i j
  have h4 := ds_few g j u
  have h5 := ds_few g i u
  have h6 := ds_sym g i j
  have h7 := ds_sym g j i
  omega
theorem rt_same (g : Vector.Good n ls) {i j : Nat} (h : ds ls i j ≠ 1000) : rt ls i = rt ls j := by
  refine rt_eq g ⟨fun e => (rt_is g j).1 ((conn g h _).1 e), fun u hu => (conn g h u).2 ((rt_is g j).2 u hu)⟩
theorem rt_rt (g : Vector.Good n ls) (i : Nat) : rt ls (rt ls i) = rt ls i := (rt_same g (rt_is g i).1).symm
/-- How far it is, and over whom. -/
noncomputable def fr (ls : List Lk) (i : Nat) : Int := ds ls i (rt ls i)
noncomputable def ov (ls : List Lk) (i : Nat) : Int := hop ls i (rt ls i)
theorem ov_none (g : Vector.Good n ls) {i : Nat} (h : rt ls i = i) : ov ls i = -1 := hop_none g (.inl h.symm)
structure Up (ls : List Lk) (n i v : Nat) : Prop where
  ov : ov ls i = (v : Int)
  nb : nb ls i (rt ls i) v
  lo : ∀ u, u < v → ¬ Spf.nb ls i (rt ls i) u
  lt : v < n
  rt : rt ls v = rt ls i
  fr : fr ls v + co ls i v = fr ls i
  co : 1 ≤ co ls i v ∧ co ls i v ≤ 20 ∧ i < n ∧ i ≠ v
theorem up_of (g : Vector.Good n ls) {i : Nat} (h : rt ls i ≠ i) : ∃ v, Up ls n i v := by
  have hr := (rt_is g i).1
  obtain ⟨v, h1, h2, h3, h4⟩ := hop_some g (s := i) (t := rt ls i) (fun e => by rcases e with e | e; exact h e.symm; exact hr e)
  have hc := co_few g h2.1
  have h5 : ds ls i v ≠ 1000 := by
    have := ds_co g i v
    omega
  have h6 := rt_same g h5
  refine ⟨v, h1, h2, h3, h4, h6.symm, ?_, hc.1, hc.2.1, hc.2.2.1, hc.2.2.2.2⟩
  have := h2.2
  show ds ls v (rt ls v) + co ls i v = ds ls i (rt ls i)
  rw [← h6]
  omega
theorem up_ov (g : Vector.Good n ls) {i v : Nat} (h : ov ls i = (v : Int)) : Up ls n i v := by
  by_cases e : rt ls i = i
  · rw [ov_none g e] at h; omega
  · obtain ⟨u, hu⟩ := up_of g e
    have : u = v := by have := hu.ov; omega
    subst this
    exact hu
theorem ov_neg (g : Vector.Good n ls) {i : Nat} (h : ov ls i < 0) : rt ls i = i := by
  by_cases e : rt ls i = i
  · exact e
  · obtain ⟨u, hu⟩ := up_of g e
    have := hu.ov; omega
theorem ov_b (g : Vector.Good n ls) (i : Nat) : -1 ≤ ov ls i ∧ ov ls i ≤ 7 := hop_b g i _
theorem fr_b (g : Vector.Good n ls) (i : Nat) : 0 ≤ fr ls i ∧ fr ls i ≤ 1000 := ⟨ds_nat g i _, ds_top g i _⟩
theorem fr_few (g : Vector.Good n ls) (i : Nat) : fr ls i ≤ 160 := by
  rcases ds_few g i (rt ls i) with h | h
  · exact absurd h (rt_is g i).1
  · exact h

/-- Links that keep the tree: none that was not there, and all those that it takes. -/
structure Keeps (ls ms : List Lk) : Prop where
  sub : ∀ i j c, Ed ms i j c → Ed ls i j c
  hops : ∀ i v : Nat, ov ls i = (v : Int) → Ed ms i v (co ls i v)
theorem Keeps.way (k : Keeps ls ms) {m i j : Nat} {c : Int} (h : Vector.Way ms m i j c) : Vector.Way ls m i j c := by
  induction h with
  | nil i => exact .nil i
  | cons e _ ih => exact .cons (k.sub _ _ _ e) ih
theorem way_le (g : Vector.Good n ms) {m i j : Nat} {c : Int} (hj : j < n) (h : Vector.Way ms m i j c) : ds ms i j ≤ c := by
  obtain ⟨q, d, h1, h2, h3, h4⟩ := h.short g hj
  have h5 := D_le h4 8 (by have := g.up; omega)
  exact Int.le_trans h5 h3
theorem Keeps.le (k : Keeps ls ms) (g2 : Vector.Good n ms) (i j : Nat) : ds ls i j ≤ ds ms i j := by
  rcases D_way g2 8 i j with e | ⟨m, hm, hw⟩
  · have : ds ms i j = 1000 := e
    rw [this]; exact D_top (n := n) 8 i j
  · exact D_le (k.way hw) 8 hm
theorem Keeps.up (k : Keeps ls ms) (g : Vector.Good n ls) : ∀ (b i : Nat), fr ls i ≤ b → ∃ m, Vector.Way ms m i (rt ls i) (fr ls i) := by
  intro b
  induction b with
  | zero =>
    intro i h
    by_cases e : rt ls i = i
    · refine ⟨0, ?_⟩
      have : fr ls i = 0 := by show ds ls i (rt ls i) = 0; rw [e]; exact ds_self g i
      rw [this, e]
      exact .nil i
    · have := ds_pos g (fun h => e h.symm)
      have : 1 ≤ fr ls i := this
      omega
  | succ b ih =>
    intro i h
    by_cases e : rt ls i = i
    · refine ⟨0, ?_⟩
      have : fr ls i = 0 := by show ds ls i (rt ls i) = 0; rw [e]; exact ds_self g i
      rw [this, e]
      exact .nil i
    · obtain ⟨v, hv⟩ := up_of g e
      have hf := hv.fr
      have hc := hv.co
      obtain ⟨m, hw⟩ := ih v (by omega)
      rw [hv.rt] at hw
      refine ⟨m + 1, ?_⟩
      rw [← hf, Int.add_comm]
      exact .cons (k.hops i v hv.ov) hw
theorem rt_lt (g : Vector.Good n ls) {i : Nat} (h : i < n) : rt ls i < n := Nat.lt_of_le_of_lt (rt_le g i) h
theorem Keeps.far (k : Keeps ls ms) (g : Vector.Good n ls) (g2 : Vector.Good n ms) {i : Nat} (hi : i < n) : ds ms i (rt ls i) = fr ls i := by
  obtain ⟨m, hw⟩ := k.up g (fr ls i).toNat i (by have := fr_b g i; omega)
  exact Int.le_antisymm (way_le g2 (rt_lt g hi) hw) (k.le g2 i _)
theorem Keeps.rt (k : Keeps ls ms) (g : Vector.Good n ls) (g2 : Vector.Good n ms) {i : Nat} (hi : i < n) : rt ms i = rt ls i := by
  refine rt_eq g2 ⟨?_, fun u hu => ?_⟩
  · rw [k.far g g2 hi]
    have := fr_few g i
    omega
  · have h1 := (rt_is g i).2 u hu
    have h2 := k.le g2 i u
    have h3 := ds_top g2 i u
    omega
theorem Keeps.fr (k : Keeps ls ms) (g : Vector.Good n ls) (g2 : Vector.Good n ms) {i : Nat} (hi : i < n) : fr ms i = fr ls i := by
  show ds ms i (Stp.rt ms i) = _
  rw [k.rt g g2 hi]
  exact k.far g g2 hi
theorem Keeps.co_le (k : Keeps ls ms) (g : Vector.Good n ls) (g2 : Vector.Good n ms) {i v : Nat} (h : co ms i v ≠ 1000) : co ls i v ≤ co ms i v := by
  rcases co_or g2 i v with e | e
  · exact absurd e h
  · exact Vector.co_le g (k.sub _ _ _ e)
theorem Keeps.ov (k : Keeps ls ms) (g : Vector.Good n ls) (g2 : Vector.Good n ms) {i : Nat} (hi : i < n) : ov ms i = ov ls i := by
  have hr := k.rt g g2 hi
  by_cases e : Stp.rt ls i = i
  · rw [ov_none g e, ov_none g2 (by rw [hr]; exact e)]
  · obtain ⟨v, hv⟩ := up_of g e
    rw [hv.ov]
    have hE := k.hops i v hv.ov
    have hc := hv.co
    have h1 : co ms i v = co ls i v := by
      have h1 := Vector.co_le g2 hE
      have h2 := k.co_le g g2 (i := i) (v := v) (by omega)
      omega
    have hfar : ∀ u : Nat, co ms i u ≠ 1000 → ds ms u (Stp.rt ls i) = ds ls u (Stp.rt ls i) := fun u hu => by
      have hcu := co_few g2 hu
      have h2 := k.co_le g g2 hu
      have h3 : ds ls i u ≠ 1000 := by
        have := ds_co g i u
        omega
      have h4 := rt_same g h3
      rw [h4]
      exact k.far g g2 hcu.2.2.2.1
    refine hop_eq g2 ?_
    rw [hr]
    have hd : ds ms i (Stp.rt ls i) = ds ls i (Stp.rt ls i) := k.far g g2 hi
    refine .inr ⟨fun h => ?_, v, rfl, ⟨by omega, ?_⟩, fun u hu hn => hv.lo u hu ?_⟩
    · rcases h with h | h
      · exact e h.symm
      · rw [hd] at h; exact (rt_is g i).1 h
    · rw [hfar v (by omega), hd, h1]
      exact hv.nb.2
    · obtain ⟨n1, n2⟩ := hn
      have h2 := k.co_le g g2 n1
      have h3 := hfar u n1
      rw [h3, hd] at n2
      have h4 := ds_tri g i u (Stp.rt ls i)
      have h5 := ds_co g i u
      have h6 := co_few g2 n1
      exact ⟨by omega, by omega⟩

/-- The way to the root, step by step. -/
theorem trail_up (g : Vector.Good n ls) {t i : Nat} {l : List Nat} (h : Trail ls t i l) : rt ls i = t → ∀ (k : Nat), k + 1 < l.length → ov ls (l[k]?.getD 0) = ((l[k + 1]?.getD 0 : Nat) : Int) := by
  induction h with
  | here => intro hr k hk; simp at hk
  | @step i v l e e2 h ih =>
    intro hr k hk
    obtain ⟨tl, rfl⟩ := h.head
    have h1 : ov ls i = (v : Int) := by show hop ls i (rt ls i) = _; rw [hr]; exact e2
    cases k with
    | zero => exact h1
    | succ k => exact ih (by rw [(up_ov g h1).rt, hr]) k (by simpa using hk)

/-- Where the first one of the cheapest links between two bridges is, among the first k; -1 for none. -/
def bst (ls : List Lk) (a b : Int) : Nat → Int
  | 0 => -1
  | k + 1 => if fit (lk ls k) a b ∧ (bst ls a b k < 0 ∨ (lk ls k).c < (lk ls (bst ls a b k).toNat).c) then (k : Int) else bst ls a b k
theorem bst_is (g : Vector.Good n ls) (a b : Int) : ∀ k, k ≤ ls.length → (bst ls a b k = -1 ∧ cst ls a b k = 1000) ∨ ∃ j : Nat, bst ls a b k = (j : Int) ∧ j < k ∧ fit (lk ls j) a b ∧ (lk ls j).c = cst ls a b k ∧ ∀ i, i < j → fit (lk ls i) a b → (lk ls i).c ≠ cst ls a b k
  | 0, _ => .inl ⟨rfl, rfl⟩
  | k + 1, hk => by
    have ih := bst_is g a b k (by omega)
    have hc := (g.all _ (lk_mem (show k < ls.length by omega))).2.2.1
    have hm : ∀ i, i < k → fit (lk ls i) a b → cst ls a b k ≤ (lk ls i).c := fun i hi hf => by
      have h1 := cst_mono ls a b (i + 1) (k - (i + 1))
      rw [show i + 1 + (k - (i + 1)) = k by omega] at h1
      refine Int.le_trans h1 ?_
      by_cases h2 : (lk ls i).c < cst ls a b i
      · rw [cst_yes hf h2]; exact Int.le_refl _
      · rw [cst_no (fun e => h2 e.2)]; omega
    by_cases hf : fit (lk ls k) a b
    · by_cases hl : bst ls a b k < 0 ∨ (lk ls k).c < (lk ls (bst ls a b k).toNat).c
      · have e1 : bst ls a b (k + 1) = (k : Int) := by show (if _ then _ else _) = _; rw [if_pos ⟨hf, hl⟩]
        have h2 : (lk ls k).c < cst ls a b k := by
          rcases ih with ⟨h1, h2⟩ | ⟨j, h1, h2, h3, h4, h5⟩
          · omega
          · rw [h1] at hl
            rcases hl with hl | hl
            · omega
            · rw [Int.toNat_natCast] at hl; omega
        refine .inr ⟨k, e1, by omega, hf, (cst_yes hf h2).symm, fun i hi hfi => ?_⟩
        rw [cst_yes hf h2]
        have := hm i hi hfi
        omega
      · have e1 : bst ls a b (k + 1) = bst ls a b k := by show (if _ then _ else _) = _; rw [if_neg (fun h => hl h.2)]
        rcases ih with ⟨h1, h2⟩ | ⟨j, h1, h2, h3, h4, h5⟩
        · exact absurd (.inl (by omega)) hl
        · have h6 : ¬ (lk ls k).c < cst ls a b k := fun h => hl (.inr (by rw [h1, Int.toNat_natCast]; omega))
          rw [e1, cst_no (fun h => h6 h.2)]
          exact .inr ⟨j, h1, by omega, h3, h4, h5⟩
    · have e1 : bst ls a b (k + 1) = bst ls a b k := by show (if _ then _ else _) = _; rw [if_neg (fun h => hf h.1)]
      rw [e1, cst_no (fun h => hf h.1)]
      rcases ih with h | ⟨j, h1, h2, h3, h4, h5⟩
      · exact .inl h
      · exact .inr ⟨j, h1, by omega, h3, h4, h5⟩
/-- That link. -/
structure Lnk (ls : List Lk) (a b j : Nat) : Prop where
  lt : j < ls.length
  fit : fit (lk ls j) a b
  c : (lk ls j).c = co ls a b
  first : ∀ i, i < j → Vector.fit (lk ls i) a b → (lk ls i).c ≠ co ls a b
theorem lnk_of (g : Vector.Good n ls) {a b : Nat} (h : co ls a b ≠ 1000) : ∃ j, Lnk ls a b j ∧ bst ls a b ls.length = (j : Int) := by
  rcases bst_is g a b ls.length (Nat.le_refl _) with ⟨_, h2⟩ | ⟨j, h1, h2, h3, h4, h5⟩
  · exact absurd h2 h
  · exact ⟨j, ⟨h2, h3, h4, h5⟩, h1⟩
theorem Lnk.uniq {a b i j : Nat} (h : Lnk ls a b i) (h' : Lnk ls a b j) : i = j := by
  rcases Nat.lt_trichotomy i j with e | e | e
  · exact absurd h.c (h'.first i e h.fit)
  · exact e
  · exact absurd h'.c (h.first j e h'.fit)
/-- The link that the tree takes from a bridge on. -/
def tk (ls : List Lk) (i k : Nat) : Prop := ∃ v : Nat, ov ls i = (v : Int) ∧ Lnk ls i v k
theorem tk_uniq {i j k : Nat} (h : tk ls i j) (h' : tk ls i k) : j = k := by
  obtain ⟨u, h1, h2⟩ := h
  obtain ⟨v, h3, h4⟩ := h'
  have : u = v := by omega
  subst this
  exact h2.uniq h4
theorem tk_inj (g : Vector.Good n ls) {i j k : Nat} (h : tk ls i k) (h' : tk ls j k) : i = j := by
  obtain ⟨u, h1, h2⟩ := h
  obtain ⟨v, h3, h4⟩ := h'
  have a1 := (up_ov g h1).fr
  have a2 := (up_ov g h3).fr
  have b1 := (up_ov g h1).co
  have b2 := (up_ov g h3).co
  have f1 := h2.fit
  have f2 := h4.fit
  unfold fit at f1 f2
  by_cases e : i = j
  · exact e
  · obtain ⟨rfl, rfl⟩ : i = v ∧ u = j := by omega
    have := co_sym ls i u
    omega
open Classical in
/-- Which links are taken by the first m bridges. -/
noncomputable def us (ls : List Lk) (m k : Nat) : Bool := decide (∃ i, i < m ∧ tk ls i k)
open Classical in
theorem us_zero (k : Nat) : us ls 0 k = false := by
  unfold us
  exact decide_eq_false fun ⟨i, hi, _⟩ => absurd hi (Nat.not_lt_zero _)
open Classical in
theorem us_skip (g : Vector.Good n ls) {m : Nat} (h : ov ls m < 0) (k : Nat) : us ls (m + 1) k = us ls m k := by
  unfold us
  refine decide_eq_decide.2 ⟨fun ⟨i, hi, hk⟩ => ?_, fun ⟨i, hi, hk⟩ => ⟨i, by omega, hk⟩⟩
  by_cases e : i = m
  · subst e
    obtain ⟨v, h1, _⟩ := hk
    omega
  · exact ⟨i, by omega, hk⟩
open Classical in
theorem us_take {m j : Nat} (h : tk ls m j) (k : Nat) : us ls (m + 1) k = if k = j then true else us ls m k := by
  unfold us
  by_cases e : k = j
  · rw [if_pos e]
    subst e
    exact decide_eq_true ⟨m, by omega, h⟩
  · rw [if_neg e]
    refine decide_eq_decide.2 ⟨fun ⟨i, hi, hk⟩ => ?_, fun ⟨i, hi, hk⟩ => ⟨i, by omega, hk⟩⟩
    by_cases e2 : i = m
    · subst e2
      exact absurd (tk_uniq hk h) e
    · exact ⟨i, by omega, hk⟩
open Classical in
theorem us_iff {m k : Nat} : us ls m k = true ↔ ∃ i, i < m ∧ tk ls i k := by
  unfold us
  exact decide_eq_true_iff
/-- Whoever keeps these links keeps the tree. -/
theorem keeps_of (g : Vector.Good n ls) (hs : ∀ l ∈ ms, l ∈ ls) (hm : ∀ k, k < ls.length → us ls n k = true → lk ls k ∈ ms) : Keeps ls ms := by
  refine ⟨fun i j c h => ?_, fun i v h => ?_⟩
  · obtain ⟨l, hl, hc, h⟩ := h
    exact ⟨l, hs l hl, hc, h⟩
  · have hu := up_ov g h
    obtain ⟨j, hj, _⟩ := lnk_of g (a := i) (b := v) (by have := hu.co; omega)
    exact ⟨lk ls j, hm j hj.lt (us_iff.2 ⟨i, hu.co.2.2.1, v, h, hj⟩), hj.c, (fit_ed g hj.lt).1 hj.fit⟩

/-- The links that are marked, in order. -/
def picks (ls : List Lk) (u : Nat → Bool) : Nat → List Lk
  | 0 => []
  | k + 1 => if u k then picks ls u k ++ [lk ls k] else picks ls u k
theorem picks_sub {u : Nat → Bool} : ∀ (k : Nat), k ≤ ls.length → ∀ l ∈ picks ls u k, l ∈ ls
  | 0, _, l, h => by cases h
  | k + 1, hk, l, h => by
    unfold picks at h
    split at h
    · rcases List.mem_append.1 h with h | h
      · exact picks_sub k (by omega) l h
      · rw [List.mem_singleton.1 h]; exact lk_mem (by omega)
    · exact picks_sub k (by omega) l h
theorem picks_mem {u : Nat → Bool} : ∀ (k j : Nat), j < k → u j = true → lk ls j ∈ picks ls u k
  | 0, j, h, _ => absurd h (Nat.not_lt_zero _)
  | k + 1, j, h, hu => by
    unfold picks
    by_cases e : j = k
    · subst e
      rw [if_pos hu]
      exact List.mem_append_right _ (List.mem_singleton.2 rfl)
    · have := picks_mem k j (by omega) hu
      split
      · exact List.mem_append_left _ this
      · exact this
theorem picks_len {u : Nat → Bool} : ∀ (k : Nat), (picks ls u k).length = ((List.range k).filter u).length
  | 0 => rfl
  | k + 1 => by
    unfold picks
    rw [List.range_succ, List.filter_append, List.length_append]
    by_cases e : u k = true
    · rw [if_pos e, List.length_append, picks_len k, List.filter_cons_of_pos e]; rfl
    · rw [if_neg e, picks_len k, List.filter_cons_of_neg e]; rfl
theorem picks_good (g : Vector.Good n ls) (u : Nat → Bool) : Vector.Good n (picks ls u ls.length) := by
  refine ⟨g.lo, g.up, ?_, fun l hl => g.all l (picks_sub ls.length (Nat.le_refl _) l hl)⟩
  rw [picks_len]
  have h1 := List.length_filter_le u (List.range ls.length)
  rw [List.length_range] at h1
  have := g.len
  omega
/-- How many of the first m are roots. -/
noncomputable def rts (ls : List Lk) : Nat → Nat
  | 0 => 0
  | m + 1 => if rt ls m = m then rts ls m + 1 else rts ls m
theorem rts_le : ∀ m, rts ls m ≤ m
  | 0 => Nat.le_refl _
  | m + 1 => by
    have := rts_le m
    unfold rts
    split <;> omega
open Classical in
theorem rts_not : ∀ m, rts ls m + ((List.range m).filter fun i => decide (rt ls i ≠ i)).length = m
  | 0 => rfl
  | m + 1 => by
    have := rts_not m
    rw [List.range_succ, List.filter_append, List.length_append]
    unfold rts
    by_cases e : rt ls m = m
    · rw [if_pos e, List.filter_cons_of_neg (by simpa using e)]
      simp only [List.filter_nil, List.length_nil]
      omega
    · rw [if_neg e, List.filter_cons_of_pos (by simpa using e)]
      simp only [List.filter_nil, List.length_cons, List.length_nil]
      omega
open Classical in
/-- As many links as bridges that are no roots. -/
theorem count (g : Vector.Good n ls) : (picks ls (us ls n) ls.length).length + rts ls n = n := by
  rw [picks_len]
  have h1 := rts_not (ls := ls) n
  have hf : ∀ i, rt ls i ≠ i → tk ls i (bst ls (i : Int) (ov ls i) ls.length).toNat := fun i hi => by
    obtain ⟨v, hv⟩ := up_of g hi
    obtain ⟨j, hj, e⟩ := lnk_of g (a := i) (b := v) (by have := hv.co; omega)
    rw [hv.ov, e, Int.toNat_natCast]
    exact ⟨v, hv.ov, hj⟩
  have hd : (((List.range n).filter fun i => decide (rt ls i ≠ i)).map fun i : Nat => (bst ls (i : Int) (ov ls i) ls.length).toNat).Nodup := by
    refine List.pairwise_map.2 ?_
    refine List.Pairwise.imp_of_mem ?_ ((List.nodup_range (n := n)).filter _)
    intro a b ha hb hab e
    have ha2 := (List.mem_filter.1 ha).2
    have hb2 := (List.mem_filter.1 hb).2
    have h2 := hf a (by simpa using ha2)
    have h3 := hf b (by simpa using hb2)
    rw [e] at h2
    exact hab (tk_inj g h2 h3)
  have hp := (List.perm_ext_iff_of_nodup hd ((List.nodup_range (n := ls.length)).filter (us ls n))).2 (fun k => by
    rw [List.mem_map, List.mem_filter, List.mem_range, us_iff]
    constructor
    · rintro ⟨i, hi, rfl⟩
      obtain ⟨hi1, hi2⟩ := List.mem_filter.1 hi
      have h2 := hf i (by simpa using hi2)
      obtain ⟨v, h3, h4⟩ := h2
      exact ⟨h4.lt, i, List.mem_range.1 hi1, v, h3, h4⟩
    · rintro ⟨hk, i, hi, v, h3, h4⟩
      have hne : rt ls i ≠ i := fun e => by rw [ov_none g e] at h3; omega
      exact ⟨i, List.mem_filter.2 ⟨List.mem_range.2 hi, by simpa using hne⟩, tk_uniq (hf i hne) ⟨v, h3, h4⟩⟩)
  have := hp.length_eq
  rw [List.length_map] at this
  omega
end Go.Proofs.YtedhippamfioeaaDoor.Stp
