/- A token ring: who sends, in order; where the frames of a station are; how many others send between two of one. Mathematics alone. No statement is proved here. -/
import Derived.Test.YteggajhpjdidcaaKit
namespace Go.Proofs.Yteggajhpjdidcaa.RingMath
set_option linter.unusedVariables false

/-- What i sends in turn t: up to h of its f i. -/
def part (f : Nat → Nat) (h i t : Nat) : List Nat := List.replicate (min (f i) (t * h + h) - min (f i) (t * h)) i
/-- What those ahead of i send in turn t. -/
def ahead (f : Nat → Nat) (h t : Nat) : Nat → List Nat
  | 0 => []
  | i + 1 => ahead f h t i ++ part f h i t
/-- What m stations send in all turns ahead of t. -/
def order (f : Nat → Nat) (h m : Nat) : Nat → List Nat
  | 0 => []
  | t + 1 => order f h m t ++ ahead f h t m
/-- All that is sent ahead of station i in turn t. -/
def pre (f : Nat → Nat) (h m t i : Nat) : List Nat := order f h m t ++ ahead f h t i

variable {f : Nat → Nat} {h m : Nat}
theorem part_len (i t : Nat) : (part f h i t).length = min (f i) (t * h + h) - min (f i) (t * h) := by simp [part]
theorem part_le (i t : Nat) : (part f h i t).length ≤ h := by rw [part_len]; omega
theorem part_none {i t : Nat} (hh : f i ≤ t * h) : part f h i t = [] := by
  unfold part
  rw [show min (f i) (t * h + h) - min (f i) (t * h) = 0 by omega]; rfl
theorem ahead_none {t : Nat} : ∀ i, (∀ j, j < i → f j ≤ t * h) → ahead f h t i = []
  | 0, _ => rfl
  | i + 1, hi => by
    rw [ahead, ahead_none i (fun j hj => hi j (by omega)), part_none (hi i (by omega))]; rfl
/-- Behind the turn in which all is sent nothing more is sent. -/
theorem order_stop {t : Nat} (ht : ∀ j, j < m → f j ≤ t * h) : ∀ k, order f h m (t + k) = order f h m t
  | 0 => rfl
  | k + 1 => by
    rw [← Nat.add_assoc, order, order_stop ht k, ahead_none m (fun j hj => Nat.le_trans (ht j hj) (Nat.mul_le_mul_right _ (by omega)))]
    simp
theorem order_end {t u : Nat} (ht : ∀ j, j < m → f j ≤ t * h) (htu : t ≤ u) : order f h m u = order f h m t := by
  obtain ⟨k, rfl⟩ : ∃ k, u = t + k := ⟨u - t, by omega⟩
  exact order_stop ht k
theorem pre_next (t i : Nat) : pre f h m t (i + 1) = pre f h m t i ++ part f h i t := by
  unfold pre; rw [ahead, List.append_assoc]
theorem pre_turn (t : Nat) : pre f h m t m = order f h m (t + 1) := rfl
theorem pre_zero (t : Nat) : pre f h m t 0 = order f h m t := by unfold pre; rw [ahead, List.append_nil]
/-- How many of station k. -/
theorem count_part (k i t : Nat) : (part f h i t).count k = if i = k then min (f k) (t * h + h) - min (f k) (t * h) else 0 := by
  unfold part
  rw [List.count_replicate]
  by_cases e : i = k
  · subst e; simp
  · rw [if_neg e, if_neg (by simpa using e)]
theorem count_ahead (k t : Nat) : ∀ i, (ahead f h t i).count k = if k < i then min (f k) (t * h + h) - min (f k) (t * h) else 0
  | 0 => by simp [ahead]
  | i + 1 => by
    rw [ahead, List.count_append, count_ahead k t i, count_part]
    by_cases e : i = k
    · subst e
      rw [if_neg (Nat.lt_irrefl i), if_pos rfl, if_pos (by omega)]; omega
    · rw [if_neg e]
      by_cases h1 : k < i
      · rw [if_pos h1, if_pos (by omega)]; omega
      · rw [if_neg h1, if_neg (by omega)]
theorem count_order (k : Nat) : ∀ t, (order f h m t).count k = if k < m then min (f k) (t * h) else 0
  | 0 => by simp [order]
  | t + 1 => by
    rw [order, List.count_append, count_order k t, count_ahead]
    by_cases h1 : k < m
    · rw [if_pos h1, if_pos h1, if_pos h1, Nat.succ_mul]; omega
    · rw [if_neg h1, if_neg h1, if_neg h1]
theorem mem_part {x i t : Nat} (hx : x ∈ part f h i t) : x = i := by
  unfold part at hx; exact (List.mem_replicate.1 hx).2
theorem mem_ahead {x t : Nat} : ∀ {i}, x ∈ ahead f h t i → x < i
  | 0, hx => by simp [ahead] at hx
  | i + 1, hx => by
    rw [ahead] at hx
    rcases List.mem_append.1 hx with h1 | h1
    · have := mem_ahead h1; omega
    · have := mem_part h1; omega
theorem mem_order {x : Nat} : ∀ {t}, x ∈ order f h m t → x < m
  | 0, hx => by simp [order] at hx
  | t + 1, hx => by
    rw [order] at hx
    rcases List.mem_append.1 hx with h1 | h1
    · exact mem_order h1
    · exact mem_ahead h1
/-- The sum of f over the numbers below k. -/
def sm (f : Nat → Nat) : Nat → Nat
  | 0 => 0
  | k + 1 => sm f k + f k
theorem len_ahead (t : Nat) : ∀ i, (ahead f h t i).length = sm (fun j => min (f j) (t * h + h) - min (f j) (t * h)) i
  | 0 => rfl
  | i + 1 => by rw [ahead, List.length_append, len_ahead t i, part_len]; rfl
theorem sm_add (a b : Nat → Nat) : ∀ k, sm a k + sm b k = sm (fun i => a i + b i) k
  | 0 => rfl
  | k + 1 => by
    have := sm_add a b k
    simp only [sm]; omega
theorem sm_congr {a b : Nat → Nat} : ∀ k, (∀ i, i < k → a i = b i) → sm a k = sm b k
  | 0, _ => rfl
  | k + 1, hk => by simp only [sm]; rw [sm_congr k (fun i hi => hk i (by omega)), hk k (by omega)]
theorem sm_le (a : Nat → Nat) (c : Nat) : ∀ k, (∀ i, i < k → a i ≤ c) → sm a k ≤ k * c
  | 0, _ => by simp [sm]
  | k + 1, hk => by
    have h1 := sm_le a c k (fun i hi => hk i (by omega))
    have h2 := hk k (by omega)
    simp only [sm]; rw [Nat.succ_mul]; omega
theorem len_order : ∀ t, (order f h m t).length = sm (fun j => min (f j) (t * h)) m
  | 0 => by
    rw [show (fun j => min (f j) (0 * h)) = fun _ => 0 from funext fun j => by simp]
    have : ∀ k, sm (fun _ => 0) k = 0 := fun k => by induction k with
      | zero => rfl
      | succ k ih => simp [sm, ih]
    rw [this]; rfl
  | t + 1 => by
    rw [order, List.length_append, len_order t, len_ahead, sm_add]
    refine sm_congr m fun j _ => ?_
    rw [Nat.succ_mul]; omega

/-- Where the frame r of station i is. -/
def pos (f : Nat → Nat) (h m i r : Nat) : Nat := (pre f h m (r / h) i).length + r % h
/-- What lies behind a beginning is in the whole. -/
theorem pre_is (T t i : Nat) (ht : t < T) (hi : i ≤ m) : ∃ R, order f h m T = pre f h m t i ++ R := by
  have h1 : ∀ (k : Nat), i + k ≤ m → ∃ R, ahead f h t (i + k) = ahead f h t i ++ R := fun k => by
    induction k with
    | zero => exact fun _ => ⟨[], by simp⟩
    | succ k ih =>
      intro hk
      obtain ⟨R, e⟩ := ih (by omega)
      exact ⟨R ++ part f h (i + k) t, by rw [← Nat.add_assoc, ahead, e, List.append_assoc]⟩
  have h2 : ∀ k, ∃ R, order f h m (t + 1 + k) = order f h m (t + 1) ++ R := fun k => by
    induction k with
    | zero => exact ⟨[], by simp⟩
    | succ k ih =>
      obtain ⟨R, e⟩ := ih
      exact ⟨R ++ ahead f h (t + 1 + k) m, by rw [← Nat.add_assoc, order, e, List.append_assoc]⟩
  obtain ⟨R1, e1⟩ := h1 (m - i) (by omega)
  rw [show i + (m - i) = m by omega] at e1
  obtain ⟨R2, e2⟩ := h2 (T - (t + 1))
  rw [show t + 1 + (T - (t + 1)) = T by omega] at e2
  refine ⟨R1 ++ R2, ?_⟩
  rw [e2, order, e1]
  unfold pre
  simp only [List.append_assoc]
/-- The parts of one turn are where they are. -/
theorem part_at {T t i k : Nat} (ht : t < T) (hi : i < m) (hk : k < (part f h i t).length) : (order f h m T)[(pre f h m t i).length + k]? = some i := by
  obtain ⟨R, e⟩ := pre_is (f := f) (h := h) T t (i + 1) ht hi
  rw [e, pre_next, List.getElem?_append_left (by rw [List.length_append]; omega), List.getElem?_append_right (by omega), Nat.add_sub_cancel_left]
  unfold part at hk ⊢
  rw [List.length_replicate] at hk
  rw [List.getElem?_replicate, if_pos hk]
/-- Each place lies in a part. -/
theorem find_ahead (t : Nat) : ∀ (i p : Nat), p < (ahead f h t i).length → ∃ j k, j < i ∧ k < (part f h j t).length ∧ p = (ahead f h t j).length + k
  | 0, p, hp => by simp [ahead] at hp
  | i + 1, p, hp => by
    by_cases h1 : p < (ahead f h t i).length
    · obtain ⟨j, k, h2, h3, h4⟩ := find_ahead t i p h1
      exact ⟨j, k, by omega, h3, h4⟩
    · rw [ahead, List.length_append] at hp
      exact ⟨i, p - (ahead f h t i).length, by omega, by omega, by omega⟩
theorem find : ∀ (T p : Nat), p < (order f h m T).length → ∃ t j k, t < T ∧ j < m ∧ k < (part f h j t).length ∧ p = (pre f h m t j).length + k
  | 0, p, hp => by simp [order] at hp
  | T + 1, p, hp => by
    by_cases h1 : p < (order f h m T).length
    · obtain ⟨t, j, k, h2, h3⟩ := find T p h1
      exact ⟨t, j, k, by omega, h3⟩
    · rw [order, List.length_append] at hp
      obtain ⟨j, k, h2, h3, h4⟩ := find_ahead (f := f) (h := h) T m (p - (order f h m T).length) (by omega)
      refine ⟨T, j, k, by omega, h2, h3, ?_⟩
      unfold pre
      rw [List.length_append]; omega
/-- The frame r of i: its place, and what is there. -/
theorem at_pos (hh : 0 < h) {T i r : Nat} (hi : i < m) (hr : r < f i) (hT : f i ≤ T * h) : (order f h m T)[pos f h m i r]? = some i := by
  have h1 : r / h * h + r % h = r := by rw [Nat.mul_comm]; exact Nat.div_add_mod r h
  have h2 : r % h < h := Nat.mod_lt _ hh
  have ht : r / h < T := by
    refine (Nat.div_lt_iff_lt_mul hh).2 ?_
    omega
  refine part_at ht hi ?_
  rw [part_len]
  omega
theorem pos_of (hh : 0 < h) {T p i : Nat} (hp : (order f h m T)[p]? = some i) : ∃ r, i < m ∧ r < f i ∧ p = pos f h m i r := by
  have hlt : p < (order f h m T).length := by
    rcases Nat.lt_or_ge p (order f h m T).length with h1 | h1
    · exact h1
    · rw [List.getElem?_eq_none h1] at hp; cases hp
  obtain ⟨t, j, k, h1, h2, h3, h4⟩ := find T p hlt
  have h5 := part_at (f := f) (h := h) h1 h2 h3
  rw [← h4, hp] at h5
  injection h5 with h5
  subst h5
  rw [part_len] at h3
  have h6 : k < h := by omega
  refine ⟨t * h + k, h2, by omega, ?_⟩
  unfold pos
  rw [show (t * h + k) / h = t by rw [Nat.add_comm, Nat.add_mul_div_right _ _ hh, Nat.div_eq_of_lt h6, Nat.zero_add], show (t * h + k) % h = k by rw [Nat.add_comm, Nat.add_mul_mod_self_right, Nat.mod_eq_of_lt h6]]
  exact h4
/-- From one frame of a station to its next. -/
theorem pos_next (hh : 0 < h) {i r : Nat} (hi : i < m) (hr : r + 1 < f i) : ((r + 1) / h = r / h ∧ pos f h m i (r + 1) = pos f h m i r + 1) ∨
    ((r + 1) / h = r / h + 1 ∧ ∃ d, d ≤ h * (m - 1) ∧ pos f h m i (r + 1) = pos f h m i r + 1 + d) := by
  have h1 := Nat.div_add_mod r h
  have h2 := Nat.mod_lt r hh
  by_cases e : r % h + 1 < h
  · refine .inl ?_
    have e1 : (r + 1) / h = r / h := by
      rw [show r + 1 = (r % h + 1) + r / h * h by rw [Nat.mul_comm] at h1; omega, Nat.add_mul_div_right _ _ hh, Nat.div_eq_of_lt e, Nat.zero_add]
    refine ⟨e1, ?_⟩
    unfold pos
    rw [e1]
    have e2 : (r + 1) % h = r % h + 1 := by
      rw [show r + 1 = (r % h + 1) + r / h * h by rw [Nat.mul_comm] at h1; omega, Nat.add_mul_mod_self_right, Nat.mod_eq_of_lt e]
    omega
  · refine .inr ?_
    have e0 : r % h + 1 = h := by omega
    have hrr : r + 1 = (r / h + 1) * h := by rw [Nat.succ_mul, Nat.mul_comm]; omega
    have e1 : (r + 1) / h = r / h + 1 := by rw [hrr, Nat.mul_div_cancel _ hh]
    have e2 : (r + 1) % h = 0 := by rw [hrr, Nat.mul_mod_left]
    refine ⟨e1, ?_⟩
    unfold pos
    rw [e1, e2]
    -- all of turn t from i on, and of the next turn up to i
    obtain ⟨t, ht⟩ : ∃ t, r / h = t := ⟨_, rfl⟩
    rw [ht] at hrr h1 ⊢
    have hsp : ∀ (k : Nat), i + 1 + k ≤ m → ∃ d, d ≤ h * k ∧ (ahead f h t (i + 1 + k)).length = (ahead f h t (i + 1)).length + d := fun k => by
      induction k with
      | zero => exact fun _ => ⟨0, by simp, rfl⟩
      | succ k ih =>
        intro hk
        obtain ⟨d, hd, e3⟩ := ih (by omega)
        have := part_le (f := f) (h := h) (i + 1 + k) t
        refine ⟨d + (part f h (i + 1 + k) t).length, by rw [Nat.mul_succ]; omega, ?_⟩
        rw [← Nat.add_assoc, ahead, List.length_append, e3]; omega
    obtain ⟨d1, hd1, e3⟩ := hsp (m - (i + 1)) (by omega)
    rw [show i + 1 + (m - (i + 1)) = m by omega] at e3
    have hd2 : (ahead f h (t + 1) i).length ≤ h * i := by
      rw [len_ahead, Nat.mul_comm h i]
      exact sm_le _ h i fun j _ => by show min _ _ - min _ _ ≤ h; omega
    have e4 : (part f h i t).length = h := by
      rw [part_len]
      have : t * h + h = r + 1 := by rw [hrr, Nat.succ_mul]
      omega
    refine ⟨d1 + (ahead f h (t + 1) i).length, ?_, ?_⟩
    · rw [show m - 1 = (m - (i + 1)) + i by omega, Nat.mul_add]; omega
    · unfold pre
      rw [List.length_append, List.length_append, order, List.length_append, e3, ahead, List.length_append, e4]
      omega
theorem pos_up (hh : 0 < h) {i : Nat} (hi : i < m) : ∀ (r k : Nat), r + k < f i → pos f h m i r + k ≤ pos f h m i (r + k)
  | r, 0, _ => Nat.le_refl _
  | r, k + 1, hk => by
    have h1 := pos_up hh hi r k (by omega)
    rcases pos_next (f := f) hh hi (r := r + k) (by omega) with ⟨_, e⟩ | ⟨_, d, _, e⟩
    · show _ ≤ pos f h m i (r + k + 1)
      rw [e]; omega
    · show _ ≤ pos f h m i (r + k + 1)
      rw [e]; omega

/-- Between the places i and j of l, which hold the same, there is none that holds it. -/
def Nx (l : List Nat) (i j : Nat) : Prop := i < j ∧ (∃ x, l[i]? = some x ∧ l[j]? = some x) ∧ ∀ k, i < k → k < j → l[k]? ≠ l[i]?
/-- The most that others send between two of one. -/
structure Gap (l : List Nat) (g : Nat) : Prop where
  top : ∀ i j, Nx l i j → j - i - 1 ≤ g
  got : g = 0 ∨ ∃ i j, Nx l i j ∧ j - i - 1 = g
theorem gap_uniq {l : List Nat} {g k : Nat} (a : Gap l g) (b : Gap l k) : g = k := by
  have h1 : g ≤ k := by
    rcases a.got with e | ⟨i, j, h1, h2⟩
    · omega
    · have := b.top i j h1; omega
  have h2 : k ≤ g := by
    rcases b.got with e | ⟨i, j, h1, h2⟩
    · omega
    · have := a.top i j h1; omega
  omega
/-- The next of two places are the next of two frames. -/
theorem nx_frames (hh : 0 < h) {T i j : Nat} (hT : ∀ k, k < m → f k ≤ T * h) (hn : Nx (order f h m T) i j) : ∃ x r, x < m ∧ r + 1 < f x ∧ i = pos f h m x r ∧ j = pos f h m x (r + 1) := by
  obtain ⟨hij, ⟨x, h1, h2⟩, h3⟩ := hn
  obtain ⟨r, hx, hr, e1⟩ := pos_of hh h1
  obtain ⟨q, _, hq, e2⟩ := pos_of hh h2
  have hrq : r < q := by
    rcases Nat.lt_or_ge r q with h4 | h4
    · exact h4
    · have := pos_up (f := f) hh hx q (r - q) (by omega)
      rw [show q + (r - q) = r by omega] at this
      omega
  by_cases e : q = r + 1
  · exact ⟨x, r, hx, by omega, e1, by rw [← e]; exact e2⟩
  · exfalso
    have h5 := pos_up (f := f) hh hx r 1 (by omega)
    have h6 := pos_up (f := f) hh hx (r + 1) (q - (r + 1)) (by omega)
    rw [show r + 1 + (q - (r + 1)) = q by omega] at h6
    refine h3 (pos f h m x (r + 1)) (by omega) (by omega) ?_
    rw [h1]
    exact at_pos hh hx (by omega) (hT x hx)
/-- Between two frames of a station every other one sends no more than its limit. -/
theorem gap_le (hh : 0 < h) {T g : Nat} (hT : ∀ k, k < m → f k ≤ T * h) (hg : Gap (order f h m T) g) : g ≤ h * (m - 1) := by
  rcases hg.got with e | ⟨i, j, hn, e⟩
  · omega
  · obtain ⟨x, r, hx, hr, e1, e2⟩ := nx_frames hh hT hn
    rcases pos_next (f := f) hh hx hr with ⟨_, e3⟩ | ⟨_, d, hd, e3⟩
    · rw [e1, e2, e3] at e; omega
    · rw [e1, e2, e3] at e; omega
/-- Who has no more than the limit sends all at once. -/
theorem gap_zero (hh : 0 < h) {T g : Nat} (hT : ∀ k, k < m → f k ≤ T * h) (hs : ∀ k, k < m → f k ≤ h) (hg : Gap (order f h m T) g) : g = 0 := by
  rcases hg.got with e | ⟨i, j, hn, e⟩
  · exact e
  · obtain ⟨x, r, hx, hr, e1, e2⟩ := nx_frames hh hT hn
    have h1 := hs x hx
    rcases pos_next (f := f) hh hx hr with ⟨_, e3⟩ | ⟨h2, _⟩
    · rw [e1, e2, e3] at e; omega
    · rw [Nat.div_eq_of_lt (by omega), Nat.div_eq_of_lt (by omega)] at h2
      omega
end Go.Proofs.Yteggajhpjdidcaa.RingMath
