/- Stations that are left, as a list: who is due, who is taken out, who meets. Mathematics alone. No statement is proved here. -/
import Derived.Test.YteggajhpjdidcaaRetryCode
namespace Go.Proofs.Yteggajhpjdidcaa.RetryMath
set_option linter.unusedVariables false

abbrev S := Nat × Nat × Nat
def up (n : Nat) (a : Nat → Nat) (s : Nat) : List Nat := (List.range n).filter fun i => decide (s ≤ a i)
def row (a m : Nat → Nat) (s i : Nat) : S := (i, m i, a i - s)
/-- Who is left ahead of slot s. -/
def st (n : Nat) (a m : Nat → Nat) (s : Nat) : List S := (up n a s).map (row a m s)
/-- A station that waits a slot less. -/
def dec (x : S) : S := (x.1, x.2.1, x.2.2 - 1)
def mix (L : List S) (k : Nat) : List S := (L.take k).map dec ++ L.drop k
/-- Whose time has come, of the first k. -/
def pl (L : List S) (k : Nat) : List Nat := (List.range k).filter fun j => (L[j]?.getD (0, 0, 0)).2.2 == 0

variable {n : Nat} {a m : Nat → Nat} {s : Nat} {L : List S}
theorem mix_zero : mix L 0 = L := by simp [mix]
theorem mix_len {k : Nat} : (mix L k).length = L.length := by unfold mix; rw [List.length_append, List.length_map, List.length_take, List.length_drop]; omega
theorem mix_all : mix L L.length = L.map dec := by simp [mix]
theorem mix_get {k : Nat} (x : S) (hx : L[k]? = some x) : (mix L k)[k]? = some x := by
  have hk : k < L.length := (List.getElem?_eq_some_iff.1 hx).1
  have h : ((L.take k).map dec).length = k := by rw [List.length_map, List.length_take]; omega
  unfold mix
  rw [List.getElem?_append_right (by omega), h, Nat.sub_self, List.getElem?_drop, Nat.add_zero, hx]
theorem mix_set {k : Nat} (x : S) (hx : L[k]? = some x) : (mix L k).set k (dec x) = mix L (k + 1) := by
  have hk : k < L.length := (List.getElem?_eq_some_iff.1 hx).1
  have h : ((L.take k).map dec).length = k := by rw [List.length_map, List.length_take]; omega
  have hd : L.drop k = x :: L.drop (k + 1) := by rw [List.drop_eq_getElem_cons hk, (List.getElem?_eq_some_iff.1 hx).2]
  unfold mix
  rw [List.set_append, if_neg (by omega), h, Nat.sub_self, hd, List.set_cons_zero, List.take_add_one, hx, List.map_append, List.append_assoc]
  rfl
theorem mix_same {k : Nat} (x : S) (hx : L[k]? = some x) (h0 : x.2.2 = 0) : mix L (k + 1) = mix L k := by
  rw [← mix_set x hx]
  have e : dec x = x := by unfold dec; rw [h0]; obtain ⟨i, j, z⟩ := x; simp at h0; rw [h0]
  rw [e]
  have hm := mix_get x hx
  rw [← (List.getElem?_eq_some_iff.1 hm).2]
  exact List.set_getElem_self _
theorem pl_zero : pl L 0 = [] := rfl
theorem pl_succ {k : Nat} (x : S) (hx : L[k]? = some x) : pl L (k + 1) = pl L k ++ if x.2.2 = 0 then [k] else [] := by
  unfold pl
  rw [List.range_succ, List.filter_append, List.filter_cons, List.filter_nil, hx, Option.getD_some]
  by_cases h : x.2.2 = 0 <;> simp [h]
theorem pl_mem {k j : Nat} (h : j ∈ pl L k) : j < k := by
  unfold pl at h
  rw [List.mem_filter, List.mem_range] at h
  exact h.1
theorem pl_len {k : Nat} : (pl L k).length ≤ k := by
  unfold pl
  exact Nat.le_trans (List.length_filter_le _ _) (by simp)
theorem pl_nodup {k : Nat} : (pl L k).Nodup := List.nodup_range.sublist List.filter_sublist

/-- The places of those who fit, in the list, are those who fit. -/
theorem places (p : Nat → Bool) : ∀ (l : List Nat), ((List.range l.length).filter fun j => p (l[j]?.getD 0)).map (fun j => l[j]?.getD 0) = l.filter p
  | l => by
    suffices h : ∀ k, k ≤ l.length → ((List.range k).filter fun j => p (l[j]?.getD 0)).map (fun j => l[j]?.getD 0) = (l.take k).filter p by
      have := h l.length (Nat.le_refl _)
      rwa [List.take_length] at this
    intro k
    induction k with
    | zero => intro _; simp
    | succ k ih =>
      intro hk
      rw [List.range_succ, List.filter_append, List.map_append, ih (by omega), List.take_add_one, List.filter_append]
      have : l[k]? = some l[k] := List.getElem?_eq_getElem (by omega)
      rw [List.filter_cons, List.filter_nil, this, Option.getD_some]
      by_cases h : p l[k] = true <;> simp [h, this]
theorem up_mem {i : Nat} : i ∈ up n a s ↔ i < n ∧ s ≤ a i := by simp [up]
theorem up_nodup : (up n a s).Nodup := List.nodup_range.sublist List.filter_sublist
theorem up_len : (up n a s).length ≤ n := by
  unfold up
  exact Nat.le_trans (List.length_filter_le _ _) (by simp)
theorem st_len : (st n a m s).length = (up n a s).length := List.length_map ..
theorem up_zero (h : ∀ i, a i = 0) : up n a 0 = List.range n := by unfold up; rw [List.filter_eq_self]; intro i _; simp
theorem st_dec : (st n a m s).map dec = (up n a s).map (row a m (s + 1)) := by
  unfold st
  rw [List.map_map]
  refine List.map_congr_left fun i hi => ?_
  simp only [Function.comp, row, dec]
  rw [Nat.sub_sub]
/-- Who is due is who sends in slot s. -/
theorem due_now : (pl (st n a m s) (up n a s).length).map (fun j => (up n a s)[j]?.getD 0) = now n a s := by
  have h1 : pl (st n a m s) (up n a s).length = (List.range (up n a s).length).filter fun j => (fun i => a i == s) ((up n a s)[j]?.getD 0) := by
    unfold pl
    refine List.filter_congr fun j hj => ?_
    have hj := List.mem_range.1 hj
    have e : (up n a s)[j]? = some (up n a s)[j] := List.getElem?_eq_getElem hj
    unfold st
    rw [List.getElem?_map, e]
    show (a _ - s == 0) = (a _ == s)
    have h2 := (up_mem.1 (List.getElem_mem hj)).2
    show (a (up n a s)[j] - s == 0) = (a (up n a s)[j] == s)
    by_cases h3 : a (up n a s)[j] = s
    · rw [h3]; simp
    · rw [beq_eq_false_iff_ne.2 h3, beq_eq_false_iff_ne.2 (by omega)]
  rw [h1, places (fun i => a i == s)]
  unfold up now
  rw [List.filter_filter]
  refine List.filter_congr fun i _ => ?_
  by_cases h3 : a i = s
  · simp [h3]
  · simp [h3]
theorem due_len : (pl (st n a m s) (up n a s).length).length = (now n a s).length := by rw [← due_now (m := m), List.length_map]
theorem due_at {k j : Nat} (h : (pl (st n a m s) (up n a s).length)[k]? = some j) : ∃ i, (up n a s)[j]? = some i ∧ (now n a s)[k]? = some i := by
  have hj := pl_mem (List.mem_of_getElem? h)
  refine ⟨(up n a s)[j], List.getElem?_eq_getElem hj, ?_⟩
  rw [← due_now (m := m), List.getElem?_map, h, Option.map_some, List.getElem?_eq_getElem hj]
  rfl

/-- One taken out of a list in which each stands once. -/
theorem cut_one {l : List Nat} (hd : l.Nodup) {p x : Nat} (hx : l[p]? = some x) : l.take p ++ l.drop (p + 1) = l.filter fun i => !(i == x) := by
  have hp : p < l.length := (List.getElem?_eq_some_iff.1 hx).1
  have e : l = l.take p ++ x :: l.drop (p + 1) := by
    have := (List.take_append_drop p l).symm
    rwa [List.drop_eq_getElem_cons hp, (List.getElem?_eq_some_iff.1 hx).2] at this
  have hd2 : (l.take p ++ x :: l.drop (p + 1)).Nodup := by rw [← e]; exact hd
  rw [List.nodup_append] at hd2
  obtain ⟨h1, h2, h3⟩ := hd2
  rw [List.nodup_cons] at h2
  conv => rhs; rw [e]
  rw [List.filter_append, List.filter_cons]
  simp only [beq_self_eq_true, Bool.not_true]
  rw [if_neg (by decide), List.filter_eq_self.2, List.filter_eq_self.2]
  · intro i hi
    have : i ≠ x := fun e2 => h2.1 (by rw [← e2]; exact hi)
    simp [this]
  · intro i hi
    have : i ≠ x := fun e2 => h3 i hi x (List.mem_cons_self ..) e2
    simp [this]
theorem up_one {i : Nat} (h : now n a s = [i]) : up n a (s + 1) = (up n a s).filter fun j => !(j == i) := by
  have hm : ∀ j, j < n → (a j = s ↔ j = i) := fun j hj => by
    have h2 : j ∈ now n a s ↔ j = i := by rw [h, List.mem_singleton]
    rw [now_mem] at h2
    exact ⟨fun e => h2.1 ⟨hj, e⟩, fun e => (h2.2 e).2⟩
  unfold up
  rw [List.filter_filter]
  refine List.filter_congr fun j hj => ?_
  have h2 := hm j (List.mem_range.1 hj)
  by_cases h3 : a j = s
  · rw [h2.1 h3]
    have h5 : a i = s := by rw [← h2.1 h3]; exact h3
    simp [h5]
  · have h4 : j ≠ i := fun e => h3 (h2.2 e)
    have h5 : (s + 1 ≤ a j) ↔ s ≤ a j := by omega
    simp [h4, h5]
theorem st_one {i p : Nat} (h : now n a s = [i]) (hp : (up n a s)[p]? = some i) : (((up n a s).map (row a m (s + 1))).take p ++ ((up n a s).map (row a m (s + 1))).drop (p + 1)) = st n a m (s + 1) := by
  unfold st
  rw [up_one h, ← cut_one up_nodup hp, List.map_append, List.map_take, List.map_drop]

/-- One station turned, in a list in which each stands once. -/
theorem set_one {l : List Nat} (hd : l.Nodup) {p x : Nat} (hx : l[p]? = some x) (f g : Nat → S) (h : ∀ y, y ≠ x → g y = f y) : (l.map f).set p (g x) = l.map g := by
  have hp : p < l.length := (List.getElem?_eq_some_iff.1 hx).1
  refine List.ext_getElem? fun k => ?_
  rw [List.getElem?_set, List.length_map]
  by_cases hk : p = k
  · subst hk
    rw [if_pos rfl, if_pos hp, List.getElem?_map, hx]; rfl
  · rw [if_neg hk, List.getElem?_map, List.getElem?_map]
    cases hy : l[k]? with
    | none => rfl
    | some y =>
      have hne : y ≠ x := fun e => by
        have hk2 : k < l.length := (List.getElem?_eq_some_iff.1 hy).1
        have h1 := (List.getElem?_eq_some_iff.1 hx).2
        have h2 := (List.getElem?_eq_some_iff.1 hy).2
        have hpw := List.pairwise_iff_getElem.1 hd
        rcases Nat.lt_or_gt_of_ne hk with h3 | h3
        · exact hpw p k hp hk2 h3 (by rw [h1, h2, e])
        · exact hpw k p hk2 hp h3 (by rw [h1, h2, e])
      simp only [Option.map_some]
      rw [h y hne]
theorem row_put (a m : Nat → Nat) (s x i b : Nat) {y : Nat} (h : y ≠ i) : row (put a i x) (put m i b) s y = row a m s y := by unfold row; rw [put_other _ _ h, put_other _ _ h]
theorem row_hit (a m : Nat → Nat) (s x i b : Nat) : row (put a i (s + x)) (put m i b) s i = (i, b, x) := by unfold row; rw [put_same, put_same]; congr 2; omega
/-- One more who meets. -/
theorem hits_snoc (i x : Nat) : ∀ (w l : List Nat) (a m : Nat → Nat), w.length = l.length → hits s (w ++ [i]) (l ++ [x]) a m =
    (put (hits s w l a m).1 i (s + 1 + x % room ((hits s w l a m).2 i + 1)), put (hits s w l a m).2 i ((hits s w l a m).2 i + 1))
  | [], [], a, m, _ => by simp [hits]
  | j :: w, [], _, _, h => by simp at h
  | [], j :: w, _, _, h => by simp at h
  | j :: w, y :: l, a, m, h => by
    rw [List.cons_append, List.cons_append, hits, hits_snoc i x w l _ _ (by simpa using h)]
    rfl
def aat (n : Nat) (s : Nat) (a m : Nat → Nat) (l : List Nat) (k : Nat) : Nat → Nat := (hits s ((now n a s).take k) (l.take k) a m).1
def mat (n : Nat) (s : Nat) (a m : Nat → Nat) (l : List Nat) (k : Nat) : Nat → Nat := (hits s ((now n a s).take k) (l.take k) a m).2
variable {l : List Nat}
theorem at_zero : aat n s a m l 0 = a ∧ mat n s a m l 0 = m := by simp [aat, mat, hits]
theorem at_all (h : (now n a s).length ≤ l.length) : (hits s (now n a s) l a m) = (aat n s a m l (now n a s).length, mat n s a m l (now n a s).length) := by
  unfold aat mat
  rw [List.take_length]
  conv => lhs; rw [← List.take_append_drop (now n a s).length l]
  rw [hits_more _ _ _ _ _ (by rw [List.length_take]; omega)]
theorem at_next {k i x : Nat} (hi : (now n a s)[k]? = some i) (hx : l[k]? = some x) :
    aat n s a m l (k + 1) = put (aat n s a m l k) i (s + 1 + x % room (mat n s a m l k i + 1)) ∧ mat n s a m l (k + 1) = put (mat n s a m l k) i (mat n s a m l k i + 1) := by
  have h1 : k < (now n a s).length := (List.getElem?_eq_some_iff.1 hi).1
  have h2 : k < l.length := (List.getElem?_eq_some_iff.1 hx).1
  unfold aat mat
  rw [List.take_add_one, List.take_add_one, hi, hx]
  simp only [Option.toList_some]
  rw [hits_snoc i x _ _ _ _ (by rw [List.length_take, List.length_take]; omega)]
  exact ⟨rfl, rfl⟩
/-- Nobody has met others so often. -/
theorem mat_le {k B : Nat} (h : ∀ i, m i ≤ B) (hk : k ≤ (now n a s).length) (hk2 : k ≤ l.length) : ∀ i, mat n s a m l k i ≤ B + k := by
  induction k with
  | zero => intro i; rw [at_zero.2]; exact h i
  | succ k ih =>
    intro i
    have h1 := ih (by omega) (by omega)
    rw [(at_next (List.getElem?_eq_getElem (by omega : k < (now n a s).length)) (List.getElem?_eq_getElem (by omega : k < l.length))).2]
    unfold put
    split
    · have := h1 (now n a s)[k]; omega
    · have := h1 i; omega
/-- Who is left behind a meeting. -/
theorem aat_up {k : Nat} (hk : k ≤ (now n a s).length) (hk2 : k ≤ l.length) : ∀ i, aat n s a m l k i = a i ∨ s + 1 ≤ aat n s a m l k i := by
  induction k with
  | zero => intro i; rw [at_zero.1]; exact .inl rfl
  | succ k ih =>
    intro i
    rw [(at_next (List.getElem?_eq_getElem (by omega : k < (now n a s).length)) (List.getElem?_eq_getElem (by omega : k < l.length))).1]
    unfold put
    split
    · exact .inr (by omega)
    · exact ih (by omega) (by omega) i
theorem aat_hit {k j i : Nat} (hk : k ≤ (now n a s).length) (hk2 : k ≤ l.length) (hj : j < k) (hi : (now n a s)[j]? = some i) : s + 1 ≤ aat n s a m l k i := by
  induction k with
  | zero => omega
  | succ k ih =>
    rw [(at_next (List.getElem?_eq_getElem (by omega : k < (now n a s).length)) (List.getElem?_eq_getElem (by omega : k < l.length))).1]
    unfold put
    split
    · omega
    · next hne =>
      have : j ≠ k := fun e => by
        subst e
        rw [List.getElem?_eq_getElem (by omega)] at hi
        exact hne (Option.some.inj hi).symm
      exact ih (by omega) (by omega) (by omega)
theorem up_hit (h : (now n a s).length ≤ l.length) : up n (aat n s a m l (now n a s).length) (s + 1) = up n a s := by
  unfold up
  refine List.filter_congr fun i hi => ?_
  have hi := List.mem_range.1 hi
  refine decide_eq_decide.2 ?_
  by_cases h1 : a i = s
  · have h2 : i ∈ now n a s := now_mem.2 ⟨hi, h1⟩
    obtain ⟨j, hj⟩ := List.mem_iff_getElem?.1 h2
    have := aat_hit (m := m) (l := l) (Nat.le_refl _) h (List.getElem?_eq_some_iff.1 hj).1 hj
    omega
  · have h2 : i ∉ now n a s := fun e => h1 (now_mem.1 e).2
    have h3 : aat n s a m l (now n a s).length i = a i := by
      unfold aat
      rw [List.take_length]
      exact hits_other _ _ _ _ h2
    rw [h3]
    omega
theorem st_hit (h : (now n a s).length ≤ l.length) : (up n a s).map (row (aat n s a m l (now n a s).length) (mat n s a m l (now n a s).length) (s + 1)) = st n (aat n s a m l (now n a s).length) (mat n s a m l (now n a s).length) (s + 1) := by
  unfold st
  rw [up_hit h]
/-- One meets, as the list is written. -/
theorem row_next {k p i x : Nat} (hp : (up n a s)[p]? = some i) (hi : (now n a s)[k]? = some i) (hx : l[k]? = some x) :
    ((up n a s).map (row (aat n s a m l k) (mat n s a m l k) (s + 1))).set p (i, mat n s a m l k i + 1, x % room (mat n s a m l k i + 1)) = (up n a s).map (row (aat n s a m l (k + 1)) (mat n s a m l (k + 1)) (s + 1)) := by
  obtain ⟨e1, e2⟩ := at_next (m := m) hi hx
  rw [← set_one up_nodup hp (row (aat n s a m l k) (mat n s a m l k) (s + 1)) (row (aat n s a m l (k + 1)) (mat n s a m l (k + 1)) (s + 1)) (fun y hy => by rw [e1, e2]; exact row_put _ _ _ _ _ _ hy)]
  rw [e1, e2, row_hit]
end Go.Proofs.Yteggajhpjdidcaa.RetryMath
